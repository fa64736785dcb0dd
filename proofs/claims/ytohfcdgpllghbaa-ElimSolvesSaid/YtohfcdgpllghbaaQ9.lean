/- Texts of one seat, laid together: La, LaB. -/
import Derived.Test.YtohfcdgpllghbaaQ1

/-
  Linear algebra over bytes (layers 7 to 9), first part: the field as a type, sums, vectors, spans, where they lead, ranks. No program in this text.
-/
set_option maxRecDepth 100000
namespace Go.Proofs.Ytohfcdgpllghbaa
namespace La

/-- A byte, as an element of the field. -/
structure B where
  val : Nat
  lt : val < 256

theorem B.ext {a b : B} (h : a.val = b.val) : a = b := by
  cases a; cases b; cases h; rfl

instance : OfNat B 0 := ⟨⟨0, by decide⟩⟩
instance : OfNat B 1 := ⟨⟨1, by decide⟩⟩
instance : Add B := ⟨fun a b => ⟨a.val ^^^ b.val, Gf.xor_lt a.lt b.lt⟩⟩
instance : Mul B := ⟨fun a b => ⟨Gf.mul a.val b.val, Gf.mul_lt a.lt b.val⟩⟩
instance : DecidableEq B := fun a b => if h : a.val = b.val then isTrue (B.ext h) else isFalse (fun e => h (by rw [e]))

/-- The inverse, and 0 of 0. -/
def iv (a : B) : B := ⟨Gf.inv a.val, Gf.inv_lt a.val⟩

theorem val_add (a b : B) : (a + b).val = a.val ^^^ b.val := rfl
theorem val_mul (a b : B) : (a * b).val = Gf.mul a.val b.val := rfl
theorem val_zero : (0 : B).val = 0 := rfl
theorem val_one : (1 : B).val = 1 := rfl
theorem val_iv (a : B) : (iv a).val = Gf.inv a.val := rfl
theorem ne_val {a : B} (h : a ≠ 0) : a.val ≠ 0 := fun e => h (B.ext e)

theorem badd_comm (a b : B) : a + b = b + a := B.ext (Nat.xor_comm _ _)
theorem badd_assoc (a b c : B) : a + b + c = a + (b + c) := B.ext (Nat.xor_assoc _ _ _)
theorem badd_zero (a : B) : a + 0 = a := B.ext (Nat.xor_zero _)
theorem bzero_add (a : B) : 0 + a = a := B.ext (Nat.zero_xor _)
theorem badd_self (a : B) : a + a = 0 := B.ext (Nat.xor_self _)
theorem bmul_comm (a b : B) : a * b = b * a := B.ext (Gf.mul_comm a.lt b.lt)
theorem bmul_assoc (a b c : B) : a * b * c = a * (b * c) := B.ext (Gf.mul_assoc a.lt b.lt c.val)
theorem bmul_zero (a : B) : a * 0 = 0 := B.ext (Gf.mul_zero _)
theorem bzero_mul (a : B) : 0 * a = 0 := B.ext (Gf.zero_mul _)
theorem bmul_one (a : B) : a * 1 = a := B.ext (Gf.mul_one a.lt)
theorem bone_mul (a : B) : 1 * a = a := B.ext (Gf.one_mul a.lt)
theorem bmul_add (a b c : B) : a * (b + c) = a * b + a * c := B.ext (Gf.mul_xor_right _ _ _)
theorem badd_mul (a b c : B) : (a + b) * c = a * c + b * c := B.ext (Gf.mul_xor_left a.lt b.lt _)
theorem iv_mul {a : B} (h : a ≠ 0) : iv a * a = 1 := B.ext (Gf.inv_mul a.lt (ne_val h))
theorem mul_iv {a : B} (h : a ≠ 0) : a * iv a = 1 := B.ext (Gf.mul_inv a.lt (ne_val h))
theorem bone_ne : (1 : B) ≠ 0 := fun e => by have := congrArg B.val e; cases this
theorem bmul_ne {a b : B} (h : a ≠ 0) (k : b ≠ 0) : a * b ≠ 0 := fun e => by
  have h1 : iv a * (a * b) = 0 := by rw [e, bmul_zero]
  rw [← bmul_assoc, iv_mul h, bone_mul] at h1
  exact k h1

instance : Std.Associative (α := B) (· + ·) := ⟨badd_assoc⟩
instance : Std.Commutative (α := B) (· + ·) := ⟨badd_comm⟩
instance : Std.Associative (α := B) (· * ·) := ⟨bmul_assoc⟩
instance : Std.Commutative (α := B) (· * ·) := ⟨bmul_comm⟩

theorem badd_left_comm (a b c : B) : a + (b + c) = b + (a + c) := by ac_rfl
theorem badd_cancel (a b : B) : a + (a + b) = b := by rw [← badd_assoc, badd_self, bzero_add]
theorem badd_cancel_right (a b : B) : a + b + b = a := by rw [badd_assoc, badd_self, badd_zero]
theorem badd_eq_zero {a b : B} (h : a + b = 0) : a = b := by
  have : a + b + b = b := by rw [h, bzero_add]
  rwa [badd_cancel_right] at this

/-! ### Sums -/

/-- The sum of the first n. -/
def sm (f : Nat → B) : Nat → B
  | 0 => 0
  | n + 1 => sm f n + f n

theorem sm_congr {f g : Nat → B} : ∀ {n : Nat}, (∀ i, i < n → f i = g i) → sm f n = sm g n
  | 0, _ => rfl
  | n + 1, h => by
    show sm f n + f n = sm g n + g n
    rw [sm_congr fun i hi => h i (by omega), h n (by omega)]
theorem sm_zero {f : Nat → B} {n : Nat} (h : ∀ i, i < n → f i = 0) : sm f n = 0 := by
  induction n with
  | zero => rfl
  | succ n ih => show sm f n + f n = 0; rw [ih fun i hi => h i (by omega), h n (by omega), badd_zero]
theorem sm_add (f g : Nat → B) : ∀ n : Nat, sm (fun i => f i + g i) n = sm f n + sm g n
  | 0 => (badd_zero 0).symm
  | n + 1 => by
    show sm (fun i => f i + g i) n + (f n + g n) = (sm f n + f n) + (sm g n + g n)
    rw [sm_add f g n]; ac_rfl
theorem sm_mul (c : B) (f : Nat → B) : ∀ n : Nat, sm (fun i => c * f i) n = c * sm f n
  | 0 => (bmul_zero c).symm
  | n + 1 => by
    show sm (fun i => c * f i) n + c * f n = c * (sm f n + f n)
    rw [sm_mul c f n, bmul_add]
theorem sm_mul_right (c : B) (f : Nat → B) (n : Nat) : sm (fun i => f i * c) n = sm f n * c := by
  rw [bmul_comm, ← sm_mul]; exact sm_congr fun i _ => bmul_comm _ _
theorem sm_swap (f : Nat → Nat → B) (n : Nat) : ∀ m : Nat, sm (fun i => sm (f i) n) m = sm (fun j => sm (fun i => f i j) m) n
  | 0 => (sm_zero fun _ _ => rfl).symm
  | m + 1 => by
    show sm (fun i => sm (f i) n) m + sm (f m) n = sm (fun j => sm (fun i => f i j) m + f m j) n
    rw [sm_swap f n m, sm_add]
/-- A sum of which only one isn't 0. -/
theorem sm_one {f : Nat → B} {n k : Nat} (hk : k < n) (h : ∀ i, i < n → i ≠ k → f i = 0) : sm f n = f k := by
  induction n with
  | zero => omega
  | succ n ih =>
    show sm f n + f n = f k
    by_cases e : k = n
    · subst e
      rw [sm_zero fun i hi => h i (by omega) (by omega), bzero_add]
    · rw [ih (by omega) fun i hi hn => h i (by omega) hn, h n (by omega) (fun e' => e e'.symm), badd_zero]
theorem sm_front (f : Nat → B) : ∀ n : Nat, sm f (n + 1) = f 0 + sm (fun i => f (i + 1)) n
  | 0 => by show 0 + f 0 = f 0 + 0; rw [bzero_add, badd_zero]
  | n + 1 => by
    show sm f (n + 1) + f (n + 1) = f 0 + (sm (fun i => f (i + 1)) n + f (n + 1))
    rw [sm_front f n, badd_assoc]

/-! ### Vectors -/

abbrev Vc := Nat → B

def v0 : Vc := fun _ => 0
def va (x y : Vc) : Vc := fun i => x i + y i
def vs (c : B) (x : Vc) : Vc := fun i => c * x i

theorem va_comm (x y : Vc) : va x y = va y x := funext fun _ => badd_comm _ _
theorem va_assoc (x y z : Vc) : va (va x y) z = va x (va y z) := funext fun _ => badd_assoc _ _ _
theorem va_zero (x : Vc) : va x v0 = x := funext fun _ => badd_zero _
theorem v0_va (x : Vc) : va v0 x = x := funext fun _ => bzero_add _
theorem va_self (x : Vc) : va x x = v0 := funext fun _ => badd_self _
theorem va_cancel (x y : Vc) : va x (va x y) = y := funext fun _ => badd_cancel _ _
theorem va_cancel_right (x y : Vc) : va (va x y) y = x := funext fun _ => badd_cancel_right _ _
theorem va_eq_zero {x y : Vc} (h : va x y = v0) : x = y := funext fun i => badd_eq_zero (congrFun h i)
theorem vs_va (c : B) (x y : Vc) : vs c (va x y) = va (vs c x) (vs c y) := funext fun _ => bmul_add _ _ _
theorem vs_add (c d : B) (x : Vc) : vs (c + d) x = va (vs c x) (vs d x) := funext fun _ => badd_mul _ _ _
theorem vs_vs (c d : B) (x : Vc) : vs c (vs d x) = vs (c * d) x := funext fun _ => (bmul_assoc _ _ _).symm
theorem vs_zero (c : B) : vs c v0 = v0 := funext fun _ => bmul_zero _
theorem zero_vs (x : Vc) : vs 0 x = v0 := funext fun _ => bzero_mul _
theorem one_vs (x : Vc) : vs 1 x = x := funext fun _ => bone_mul _

/-- A set of vectors that is closed: 0, sums, multiples. -/
structure Lin (W : Vc → Prop) : Prop where
  zero : W v0
  add : ∀ {x y}, W x → W y → W (va x y)
  smul : ∀ {x} (c : B), W x → W (vs c x)

theorem Lin.of_sum {W : Vc → Prop} (h : Lin W) {x y : Vc} (hx : W x) (hs : W (va x y)) : W y := by
  have := h.add hx hs
  rwa [va_cancel] at this
theorem Lin.of_sum' {W : Vc → Prop} (h : Lin W) {x y : Vc} (hy : W y) (hs : W (va x y)) : W x := h.of_sum hy (by rwa [va_comm])

/-- The span of a list. -/
inductive Sp (L : List Vc) : Vc → Prop
  | zero : Sp L v0
  | more {v w : Vc} (c : B) (hv : v ∈ L) (hw : Sp L w) : Sp L (va (vs c v) w)

theorem Sp.mem {L : List Vc} {v : Vc} (h : v ∈ L) : Sp L v := by
  have := Sp.more 1 h Sp.zero
  rwa [va_zero, one_vs] at this
theorem Sp.add {L : List Vc} {x y : Vc} (hx : Sp L x) (hy : Sp L y) : Sp L (va x y) := by
  induction hx with
  | zero => rwa [v0_va]
  | more c hv _ ih => rw [va_assoc]; exact Sp.more c hv ih
theorem Sp.smul {L : List Vc} {x : Vc} (c : B) (hx : Sp L x) : Sp L (vs c x) := by
  induction hx with
  | zero => rw [vs_zero]; exact Sp.zero
  | more d hv _ ih => rw [vs_va, vs_vs]; exact Sp.more _ hv ih
theorem Sp.lin (L : List Vc) : Lin (Sp L) := ⟨Sp.zero, Sp.add, Sp.smul⟩
/-- What is closed and has the list's vectors has their span. -/
theorem Sp.within {L : List Vc} {W : Vc → Prop} (hW : Lin W) (h : ∀ v ∈ L, W v) {x : Vc} (hx : Sp L x) : W x := by
  induction hx with
  | zero => exact hW.zero
  | more c hv _ ih => exact hW.add (hW.smul c (h _ hv)) ih
theorem Sp.mono {L M : List Vc} (h : ∀ v ∈ L, Sp M v) {x : Vc} (hx : Sp L x) : Sp M x := hx.within (Sp.lin M) h
theorem Sp.sub {L M : List Vc} (h : ∀ v ∈ L, v ∈ M) {x : Vc} (hx : Sp L x) : Sp M x := hx.mono fun v hv => Sp.mem (h v hv)
theorem Sp.nil {x : Vc} (h : Sp [] x) : x = v0 := by
  cases h with
  | zero => rfl
  | more c hv _ => cases hv
theorem Sp.cons {e : Vc} {L : List Vc} {x : Vc} : Sp (e :: L) x ↔ ∃ c w, Sp L w ∧ x = va (vs c e) w := by
  constructor
  · intro h
    induction h with
    | zero => exact ⟨0, v0, Sp.zero, by rw [zero_vs, va_zero]⟩
    | more c hv _ ih =>
      obtain ⟨d, w, hw, rfl⟩ := ih
      rcases List.mem_cons.1 hv with rfl | hm
      · exact ⟨c + d, w, hw, by rw [vs_add, va_assoc]⟩
      · exact ⟨d, va (vs c _) w, Sp.more c hm hw, by rw [← va_assoc, va_comm (vs c _), va_assoc]⟩
  · rintro ⟨c, w, hw, rfl⟩
    exact Sp.more c (List.mem_cons_self) (hw.sub fun v hv => List.mem_cons_of_mem _ hv)
theorem Sp.append_comm {L M : List Vc} {x : Vc} (h : Sp (L ++ M) x) : Sp (M ++ L) x := h.sub fun v hv => by
  rw [List.mem_append] at hv ⊢; exact hv.symm

/-! ### Where vectors lead -/

def Lead (v : Vc) (i : Nat) : Prop := v i ≠ 0 ∧ ∀ j, j < i → v j = 0

theorem Lead.unique {v : Vc} {i j : Nat} (h : Lead v i) (k : Lead v j) : i = j := by
  rcases Nat.lt_trichotomy i j with hl | he | hl
  · exact absurd (k.2 i hl) h.1
  · exact he
  · exact absurd (h.2 j hl) k.1
theorem exists_lead {v : Vc} : ∀ i : Nat, v i ≠ 0 → ∃ j, j ≤ i ∧ Lead v j := by
  intro i
  induction i using Nat.strongRecOn with
  | _ i ih =>
    intro h
    by_cases hz : ∀ j, j < i → v j = 0
    · exact ⟨i, Nat.le_refl _, h, hz⟩
    · obtain ⟨j, hj⟩ := Classical.not_forall.1 hz
      obtain ⟨hj, hn⟩ := Classical.not_imp.1 hj
      obtain ⟨k, hk, hl⟩ := ih j hj hn
      exact ⟨k, by omega, hl⟩
theorem lead_of_ne {v : Vc} (h : v ≠ v0) : ∃ j, Lead v j := by
  by_cases hz : ∀ i, v i = 0
  · exact absurd (funext hz) h
  · obtain ⟨i, hi⟩ := Classical.not_forall.1 hz
    obtain ⟨j, _, hj⟩ := exists_lead i hi
    exact ⟨j, hj⟩

/-- Nothing stands at n or behind. -/
def Short (n : Nat) (v : Vc) : Prop := ∀ i, n ≤ i → v i = 0
theorem Short.lin (n : Nat) : Lin (Short n) := ⟨fun _ _ => rfl, fun hx hy i hi => by show _ + _ = _; rw [hx i hi, hy i hi, badd_zero], fun c hx i hi => by show _ * _ = _; rw [hx i hi, bmul_zero]⟩
theorem Short.lead {n i : Nat} {v : Vc} (h : Short n v) (hl : Lead v i) : i < n := by
  by_cases hi : i < n
  · exact hi
  · exact absurd (h i (by omega)) hl.1

/-- Rows that lead, no two at one place. -/
structure Ech (E : List Vc) : Prop where
  ne : ∀ e ∈ E, ∃ i, Lead e i
  apart : E.Pairwise fun x y => ∀ i, Lead x i → ¬ Lead y i

theorem Ech.nil : Ech [] := ⟨fun e h => (by cases h), List.Pairwise.nil⟩
theorem Ech.tail {e : Vc} {E : List Vc} (h : Ech (e :: E)) : Ech E := ⟨fun x hx => h.ne x (List.mem_cons_of_mem _ hx), (List.pairwise_cons.1 h.apart).2⟩

/-- What such rows span leads where one of them does. -/
theorem Ech.lead {E : List Vc} (h : Ech E) : ∀ {v : Vc} {i : Nat}, Sp E v → Lead v i → ∃ e ∈ E, Lead e i := by
  induction E with
  | nil => intro v i hv hl; rw [hv.nil] at hl; exact absurd rfl hl.1
  | cons e E ih =>
    intro v i hv hl
    obtain ⟨c, w, hw, rfl⟩ := Sp.cons.1 hv
    obtain ⟨a, ha⟩ := h.ne e List.mem_cons_self
    have hl1 : c * e i + w i ≠ 0 := hl.1
    have hl2 : ∀ j, j < i → c * e j + w j = 0 := hl.2
    rcases Nat.lt_trichotomy i a with hia | rfl | hia
    · have hw' : Lead w i := ⟨by rw [ha.2 i hia, bmul_zero, bzero_add] at hl1; exact hl1, fun j hj => by
        have := hl2 j hj
        rwa [ha.2 j (by omega), bmul_zero, bzero_add] at this⟩
      obtain ⟨x, hx, hxl⟩ := ih h.tail hw hw'
      exact ⟨x, List.mem_cons_of_mem _ hx, hxl⟩
    · exact ⟨e, List.mem_cons_self, ha⟩
    · by_cases hc : c = 0
      · subst hc
        have hw' : Lead w i := ⟨by rwa [bzero_mul, bzero_add] at hl1, fun j hj => by
          have := hl2 j hj
          rwa [bzero_mul, bzero_add] at this⟩
        obtain ⟨x, hx, hxl⟩ := ih h.tail hw hw'
        exact ⟨x, List.mem_cons_of_mem _ hx, hxl⟩
      · have hw' : Lead w a := ⟨fun hz => by
          have := hl2 a hia
          rw [hz, badd_zero] at this
          exact bmul_ne hc ha.1 this, fun j hj => by
          have := hl2 j (by omega)
          rwa [ha.2 j hj, bmul_zero, bzero_add] at this⟩
        obtain ⟨x, hx, hxl⟩ := ih h.tail hw hw'
        exact absurd hxl ((List.pairwise_cons.1 h.apart).1 x hx a ha)

/-- What such rows span, and is 0 wherever one of them leads, is 0. -/
theorem Ech.zero {E : List Vc} (h : Ech E) {v : Vc} (hv : Sp E v) (h0 : ∀ e ∈ E, ∀ i, Lead e i → v i = 0) : v = v0 := by
  by_cases hz : v = v0
  · exact hz
  · obtain ⟨i, hi⟩ := lead_of_ne hz
    obtain ⟨e, he, hl⟩ := h.lead hv hi
    exact absurd (h0 e he i hl) hi.1

/-- Any vector is, by what such rows span, one that is 0 wherever one of them leads. -/
theorem Ech.rest (E : List Vc) (v : Vc) : ∀ n : Nat, ∃ r, Sp E (va v r) ∧ ∀ i, i < n → (∃ e ∈ E, Lead e i) → r i = 0
  | 0 => ⟨v, by rw [va_self]; exact Sp.zero, fun i hi => by omega⟩
  | n + 1 => by
    obtain ⟨r, hr, h0⟩ := Ech.rest E v n
    by_cases hn : ∃ e ∈ E, Lead e n
    · obtain ⟨e, he, hl⟩ := hn
      refine ⟨va (vs (r n * iv (e n)) e) r, ?_, fun i hi hle => ?_⟩
      · rw [va_comm, va_assoc, va_comm r v]; exact Sp.more _ he hr
      · show r n * iv (e n) * e i + r i = 0
        by_cases hin : i = n
        · subst hin
          rw [bmul_assoc, iv_mul hl.1, bmul_one, badd_self]
        · rw [hl.2 i (by omega), bmul_zero, bzero_add]
          exact h0 i (by omega) hle
    · refine ⟨r, hr, fun i hi hle => ?_⟩
      by_cases hin : i = n
      · subst hin; exact absurd hle hn
      · exact h0 i (by omega) hle

/-! ### Ranks -/

/-- Does some vector of these lead there? -/
def Ld (W : Vc → Prop) (i : Nat) : Prop := ∃ v, W v ∧ Lead v i

open Classical in
/-- At how many of the first n places some vector leads. -/
noncomputable def rk (n : Nat) (W : Vc → Prop) : Nat := (List.range n).countP fun i => decide (Ld W i)

open Classical in
theorem rk_mono {n : Nat} {W U : Vc → Prop} (h : ∀ v, W v → U v) : rk n W ≤ rk n U := by
  unfold rk
  apply List.countP_mono_left
  intro i _ hi
  rw [decide_eq_true_eq] at hi ⊢
  obtain ⟨v, hv, hl⟩ := hi
  exact ⟨v, h v hv, hl⟩
theorem rk_congr {n : Nat} {W U : Vc → Prop} (h : ∀ v, W v ↔ U v) : rk n W = rk n U := Nat.le_antisymm (rk_mono fun v => (h v).1) (rk_mono fun v => (h v).2)
theorem rk_le (n : Nat) (W : Vc → Prop) : rk n W ≤ n := by
  have := List.countP_le_length (p := fun i => @decide (Ld W i) (Classical.propDecidable _)) (l := List.range n)
  rwa [List.length_range] at this

theorem countP_or {p q r : Nat → Bool} (l : List Nat) (h : ∀ i ∈ l, r i = (p i || q i)) (hd : ∀ i ∈ l, ¬ (p i = true ∧ q i = true)) : l.countP r = l.countP p + l.countP q := by
  induction l with
  | nil => rfl
  | cons x l ih =>
    have h1 := h x List.mem_cons_self
    have h2 := hd x List.mem_cons_self
    rw [List.countP_cons, List.countP_cons, List.countP_cons, ih (fun i hi => h i (List.mem_cons_of_mem _ hi)) (fun i hi => hd i (List.mem_cons_of_mem _ hi)), h1]
    cases hp : p x <;> cases hq : q x <;> simp_all <;> omega
theorem countP_eq_one {n k : Nat} (hk : k < n) : (List.range n).countP (fun i => decide (i = k)) = 1 := by
  induction n with
  | zero => omega
  | succ n ih =>
    rw [List.range_succ, List.countP_append]
    by_cases e : k = n
    · subst e
      have : (List.range k).countP (fun i => decide (i = k)) = 0 := by
        rw [List.countP_eq_zero]; intro i hi; rw [List.mem_range] at hi; simp; omega
      rw [this]; simp
    · rw [ih (by omega)]
      have : ¬ n = k := fun h => e h.symm
      simp [this]

/-- Does one of these rows lead there? -/
def Led (E : List Vc) (i : Nat) : Prop := ∃ e ∈ E, Lead e i

open Classical in
theorem rk_ech {n : Nat} {E : List Vc} (h : Ech E) (hs : ∀ e ∈ E, Short n e) : rk n (Sp E) = E.length := by
  have key : ∀ i, Ld (Sp E) i ↔ ∃ e ∈ E, Lead e i := fun i => ⟨fun ⟨v, hv, hl⟩ => h.lead hv hl, fun ⟨e, he, hl⟩ => ⟨e, Sp.mem he, hl⟩⟩
  have e1 : rk n (Sp E) = (List.range n).countP fun i => @decide (Led E i) (Classical.propDecidable _) := by
    unfold rk
    apply List.countP_congr
    intro i _
    rw [decide_eq_true_eq, decide_eq_true_eq]
    exact key i
  rw [e1]
  clear e1 key
  induction E with
  | nil => simp [Led]
  | cons e E ih =>
    obtain ⟨a, ha⟩ := h.ne e List.mem_cons_self
    have hlt : a < n := (hs e List.mem_cons_self).lead ha
    rw [countP_or (p := fun i => decide (i = a)) (q := fun i => @decide (Led E i) (Classical.propDecidable _)), countP_eq_one hlt, ih h.tail (fun x hx => hs x (List.mem_cons_of_mem _ hx)), List.length_cons, Nat.add_comm]
    · intro i _
      rw [Bool.eq_iff_iff, Bool.or_eq_true, decide_eq_true_eq, decide_eq_true_eq, decide_eq_true_eq]
      constructor
      · rintro ⟨x, hx, hl⟩
        rcases List.mem_cons.1 hx with rfl | hx
        · exact Or.inl (hl.unique ha)
        · exact Or.inr ⟨x, hx, hl⟩
      · rintro (rfl | ⟨x, hx, hl⟩)
        · exact ⟨e, List.mem_cons_self, ha⟩
        · exact ⟨x, List.mem_cons_of_mem _ hx, hl⟩
    · rintro i _ ⟨h1, h2⟩
      rw [decide_eq_true_eq] at h1 h2
      subst h1
      obtain ⟨x, hx, hl⟩ := h2
      exact (List.pairwise_cons.1 h.apart).1 x hx i ha hl

/-- A row more, of which something is left, makes a basis of one more. -/
theorem Ech.more {E : List Vc} (h : Ech E) {r : Vc} {n : Nat} (hr : Short n r) (h0 : ∀ i, i < n → (∃ e ∈ E, Lead e i) → r i = 0) (hne : r ≠ v0) : Ech (r :: E) := by
  obtain ⟨a, ha⟩ := lead_of_ne hne
  refine ⟨fun e he => ?_, List.pairwise_cons.2 ⟨fun x hx i hi hl => ?_, h.apart⟩⟩
  · rcases List.mem_cons.1 he with rfl | he
    · exact ⟨a, ha⟩
    · exact h.ne e he
  · exact hi.1 (h0 i (hr.lead hi) ⟨x, hx, hl⟩)

/-- Whatever vectors: rows that lead, no two at one place, of the same span; as many at most. -/
theorem exists_ech {n : Nat} : ∀ L : List Vc, (∀ v ∈ L, Short n v) → ∃ E, Ech E ∧ (∀ e ∈ E, Short n e) ∧ (∀ v, Sp E v ↔ Sp L v) ∧ E.length ≤ L.length
  | [], _ => ⟨[], Ech.nil, fun e h => (by cases h), fun _ => Iff.rfl, Nat.le_refl _⟩
  | v :: L, hs => by
    obtain ⟨E, hE, hS, hI, hlen⟩ := exists_ech L fun x hx => hs x (List.mem_cons_of_mem _ hx)
    obtain ⟨r, hr, h0⟩ := Ech.rest E v n
    have hvs := hs v List.mem_cons_self
    have hrs : Short n r := (Short.lin n).of_sum hvs (hr.within (Short.lin n) hS)
    have hup : ∀ x, Sp L x → Sp (v :: L) x := fun x hx => hx.sub fun y hy => List.mem_cons_of_mem _ hy
    by_cases hz : r = v0
    · subst hz
      rw [va_zero] at hr
      refine ⟨E, hE, hS, fun x => ⟨fun hx => hup x ((hI x).1 hx), fun hx => hx.mono fun y hy => ?_⟩, by rw [List.length_cons]; omega⟩
      rcases List.mem_cons.1 hy with rfl | hy
      · exact hr
      · exact (hI y).2 (Sp.mem hy)
    · refine ⟨r :: E, hE.more hrs h0 hz, fun e he => ?_, fun x => ⟨fun hx => hx.mono fun y hy => ?_, fun hx => hx.mono fun y hy => ?_⟩, by rw [List.length_cons, List.length_cons]; omega⟩
      · rcases List.mem_cons.1 he with rfl | he
        · exact hrs
        · exact hS e he
      · rcases List.mem_cons.1 hy with rfl | hy
        · exact (Sp.lin _).of_sum (Sp.mem List.mem_cons_self) (hup _ ((hI _).1 hr))
        · exact hup y ((hI y).1 (Sp.mem hy))
      · rcases List.mem_cons.1 hy with rfl | hy
        · exact (Sp.lin _).of_sum' (Sp.mem List.mem_cons_self) (hr.sub fun z hz => List.mem_cons_of_mem _ hz)
        · exact ((hI y).2 (Sp.mem hy)).sub fun z hz => List.mem_cons_of_mem _ hz

theorem rk_le_length {n : Nat} (L : List Vc) (hs : ∀ v ∈ L, Short n v) : rk n (Sp L) ≤ L.length := by
  obtain ⟨E, hE, hS, hI, hlen⟩ := exists_ech L hs
  rw [← rk_congr hI, rk_ech hE hS]; exact hlen

/-- One more that is spanned adds nothing; one that isn't, one. -/
theorem rk_in {n : Nat} {L : List Vc} {v : Vc} (h : Sp L v) : rk n (Sp (v :: L)) = rk n (Sp L) :=
  rk_congr fun x => ⟨fun hx => hx.mono fun y hy => by
    rcases List.mem_cons.1 hy with rfl | hy
    · exact h
    · exact Sp.mem hy, fun hx => hx.sub fun y hy => List.mem_cons_of_mem _ hy⟩
theorem rk_out {n : Nat} {L : List Vc} {v : Vc} (hs : ∀ x ∈ L, Short n x) (hv : Short n v) (h : ¬ Sp L v) : rk n (Sp (v :: L)) = rk n (Sp L) + 1 := by
  obtain ⟨E, hE, hS, hI, _⟩ := exists_ech L hs
  obtain ⟨r, hr, h0⟩ := Ech.rest E v n
  have hrs : Short n r := (Short.lin n).of_sum hv (hr.within (Short.lin n) hS)
  have hz : r ≠ v0 := by
    rintro rfl
    rw [va_zero] at hr
    exact h ((hI v).1 hr)
  have hI' : ∀ x, Sp (r :: E) x ↔ Sp (v :: L) x := fun x => ⟨fun hx => hx.mono fun y hy => by
      rcases List.mem_cons.1 hy with rfl | hy
      · exact (Sp.lin _).of_sum (Sp.mem List.mem_cons_self) (((hI _).1 hr).sub fun z hz => List.mem_cons_of_mem _ hz)
      · exact ((hI y).1 (Sp.mem hy)).sub fun z hz => List.mem_cons_of_mem _ hz,
    fun hx => hx.mono fun y hy => by
      rcases List.mem_cons.1 hy with rfl | hy
      · exact (Sp.lin _).of_sum' (Sp.mem List.mem_cons_self) (hr.sub fun z hz => List.mem_cons_of_mem _ hz)
      · exact ((hI y).2 (Sp.mem hy)).sub fun z hz => List.mem_cons_of_mem _ hz⟩
  rw [← rk_congr hI', ← rk_congr hI, rk_ech hE hS, rk_ech (hE.more hrs h0 hz) fun e he => by
    rcases List.mem_cons.1 he with rfl | he
    · exact hrs
    · exact hS e he]
  rfl

open Classical in
/-- Of full rank: all short vectors are spanned. -/
theorem full_all {n : Nat} {L : List Vc} (hs : ∀ x ∈ L, Short n x) (h : rk n (Sp L) = n) {v : Vc} (hv : Short n v) : Sp L v := by
  obtain ⟨E, hE, hS, hI, _⟩ := exists_ech L hs
  have hall : ∀ i, i < n → ∃ e ∈ E, Lead e i := by
    rw [← rk_congr hI] at h
    unfold rk at h
    have hc : (List.range n).countP (fun i => @decide (Ld (Sp E) i) (Classical.propDecidable _)) = (List.range n).length := by rw [h, List.length_range]
    rw [List.countP_eq_length] at hc
    intro i hi
    have := hc i (List.mem_range.2 hi)
    rw [decide_eq_true_eq] at this
    obtain ⟨x, hx, hl⟩ := this
    exact hE.lead hx hl
  obtain ⟨r, hr, h0⟩ := Ech.rest E v n
  have hrs : Short n r := (Short.lin n).of_sum hv (hr.within (Short.lin n) hS)
  have : r = v0 := funext fun i => by
    by_cases hi : i < n
    · exact h0 i hi (hall i hi)
    · exact hrs i (by omega)
  subst this
  rw [va_zero] at hr
  exact (hI v).1 hr

/-! ### Reduced rows: there is one list of them alone -/

/-- Rows by rising places; each leads with a 1, where all others have a 0. -/
structure Red (E : List Vc) : Prop where
  rise : E.Pairwise fun x y => ∀ i j, Lead x i → Lead y j → i < j
  one : ∀ e ∈ E, ∃ i, Lead e i ∧ e i = 1
  clear : E.Pairwise fun x y => ∀ i, (Lead x i → y i = 0) ∧ (Lead y i → x i = 0)

theorem Red.nil : Red [] := ⟨List.Pairwise.nil, fun e h => (by cases h), List.Pairwise.nil⟩
theorem Red.ech {E : List Vc} (h : Red E) : Ech E := ⟨fun e he => by obtain ⟨i, hi, _⟩ := h.one e he; exact ⟨i, hi⟩, h.rise.imp fun hxy i hx hy => Nat.lt_irrefl i (hxy i i hx hy)⟩
theorem Red.tail {e : Vc} {E : List Vc} (h : Red (e :: E)) : Red E := ⟨(List.pairwise_cons.1 h.rise).2, fun x hx => h.one x (List.mem_cons_of_mem _ hx), (List.pairwise_cons.1 h.clear).2⟩
/-- At a place where one leads, any other has a 0. -/
theorem Red.at {E : List Vc} (h : Red E) {x y : Vc} (hx : x ∈ E) (hy : y ∈ E) {i : Nat} (hi : Lead x i) (hne : ¬ Lead y i) : y i = 0 := by
  induction E with
  | nil => cases hx
  | cons e E ih =>
    have hc := List.pairwise_cons.1 h.clear
    rcases List.mem_cons.1 hx with ex | hx
    · rcases List.mem_cons.1 hy with ey | hy
      · rw [ex] at hi; rw [ey] at hne; exact absurd hi hne
      · rw [ex] at hi; exact (hc.1 y hy i).1 hi
    · rcases List.mem_cons.1 hy with ey | hy
      · rw [ey]; exact (hc.1 x hx i).2 hi
      · exact ih h.tail hx hy
theorem Red.lead_one {E : List Vc} (h : Red E) {x : Vc} (hx : x ∈ E) {i : Nat} (hi : Lead x i) : x i = 1 := by
  obtain ⟨j, hj, h1⟩ := h.one x hx
  rw [hi.unique hj]; exact h1
/-- Two rows of reduced lists of one span that lead at one place are the same. -/
theorem Red.same {E F : List Vc} (hE : Red E) (hF : Red F) (hEF : ∀ v, Sp E v ↔ Sp F v) {x y : Vc} (hx : x ∈ E) (hy : y ∈ F) {i : Nat} (hi : Lead x i) (hj : Lead y i) : x = y := by
  apply va_eq_zero
  refine hE.ech.zero ((Sp.mem hx).add ((hEF y).2 (Sp.mem hy))) fun e he k hk => ?_
  show x k + y k = 0
  obtain ⟨f, hf, hfl⟩ := hF.ech.lead ((hEF e).1 (Sp.mem he)) hk
  by_cases hki : k = i
  · subst hki
    rw [hE.lead_one hx hi, hF.lead_one hy hj, badd_self]
  · rw [hE.at he hx hk fun hl => hki (hl.unique hi), hF.at hf hy hfl fun hl => hki (hl.unique hj), badd_self]
theorem Red.eq : ∀ {E F : List Vc}, Red E → Red F → (∀ v, Sp E v ↔ Sp F v) → E = F
  | [], [], _, _, _ => rfl
  | [], f :: F, _, hF, h => by
    obtain ⟨i, hi, _⟩ := hF.one f List.mem_cons_self
    have := ((h f).2 (Sp.mem List.mem_cons_self)).nil
    rw [this] at hi
    exact absurd rfl hi.1
  | e :: E, [], hE, _, h => by
    obtain ⟨i, hi, _⟩ := hE.one e List.mem_cons_self
    have := ((h e).1 (Sp.mem List.mem_cons_self)).nil
    rw [this] at hi
    exact absurd rfl hi.1
  | e :: E, f :: F, hE, hF, h => by
    obtain ⟨i, hi, _⟩ := hE.one e List.mem_cons_self
    obtain ⟨j, hj, _⟩ := hF.one f List.mem_cons_self
    obtain ⟨y, hy, hyl⟩ := hF.ech.lead ((h e).1 (Sp.mem List.mem_cons_self)) hi
    obtain ⟨x, hx, hxl⟩ := hE.ech.lead ((h f).2 (Sp.mem List.mem_cons_self)) hj
    have hij : i = j := by
      rcases List.mem_cons.1 hy with rfl | hy'
      · exact hyl.unique hj
      · have h1 := (List.pairwise_cons.1 hF.rise).1 y hy' j i hj hyl
        rcases List.mem_cons.1 hx with rfl | hx'
        · exact hi.unique hxl
        · have h2 := (List.pairwise_cons.1 hE.rise).1 x hx' i j hi hxl
          omega
    subst hij
    have hef : e = f := hE.same hF h List.mem_cons_self List.mem_cons_self hi hj
    subst hef
    have drop : ∀ {A A' : List Vc}, Red (e :: A) → Red (e :: A') → (∀ v, Sp (e :: A) v ↔ Sp (e :: A') v) → ∀ v, Sp A v → Sp A' v := by
      intro A A' hA hA' hI v hv
      obtain ⟨c, w, hw, rfl⟩ := Sp.cons.1 ((hI v).1 (hv.sub fun z hz => List.mem_cons_of_mem _ hz))
      have z1 : va (vs c e) w i = 0 := hv.within (W := fun v => v i = 0) ⟨rfl, fun h1 h2 => by show _ + _ = _; rw [h1, h2, badd_zero], fun c h1 => by show _ * _ = _; rw [h1, bmul_zero]⟩
        fun z hz => ((List.pairwise_cons.1 hA.clear).1 z hz i).1 hi
      have z2 : w i = 0 := hw.within (W := fun v => v i = 0) ⟨rfl, fun h1 h2 => by show _ + _ = _; rw [h1, h2, badd_zero], fun c h1 => by show _ * _ = _; rw [h1, bmul_zero]⟩
        fun z hz => ((List.pairwise_cons.1 hA'.clear).1 z hz i).1 hi
      have hc : c = 0 := by
        have z3 : c * e i + w i = 0 := z1
        rw [z2, badd_zero, hA.lead_one List.mem_cons_self hi, bmul_one] at z3
        exact z3
      subst hc
      rw [zero_vs, v0_va]; exact hw
    rw [Red.eq hE.tail hF.tail fun v => ⟨drop hE hF h v, drop hF hE (fun v => (h v).symm) v⟩]

/-- What is left of a vector, where all rows lead a 0, is one alone. -/
theorem Ech.rest_unique {E : List Vc} (h : Ech E) {v r s : Vc} (hr : Sp E (va v r)) (hs : Sp E (va v s)) (r0 : ∀ e ∈ E, ∀ i, Lead e i → r i = 0) (s0 : ∀ e ∈ E, ∀ i, Lead e i → s i = 0) : r = s := by
  apply va_eq_zero
  refine h.zero ?_ fun e he i hi => ?_
  · have := hr.add hs
    rwa [va_assoc, va_comm r, ← va_assoc, va_cancel, va_comm] at this
  · show r i + s i = 0
    rw [r0 e he i hi, s0 e he i hi, badd_zero]

end La
end Go.Proofs.Ytohfcdgpllghbaa

/-
  Linear algebra over bytes, second part: combinations by their coefficients, matrices turned and multiplied, inverses. No program in this text.
-/
set_option maxRecDepth 100000
namespace Go.Proofs.Ytohfcdgpllghbaa
namespace La

/-- The first m rows of a matrix. -/
def rows (A : Nat → Vc) (m : Nat) : List Vc := (List.range m).map A

theorem rows_succ (A : Nat → Vc) (m : Nat) : rows A (m + 1) = rows A m ++ [A m] := by simp [rows, List.range_succ]
theorem rows_length (A : Nat → Vc) (m : Nat) : (rows A m).length = m := by simp [rows]
theorem mem_rows {A : Nat → Vc} {m : Nat} {v : Vc} : v ∈ rows A m ↔ ∃ i, i < m ∧ A i = v := by simp [rows]
theorem rows_congr {A C : Nat → Vc} {m : Nat} (h : ∀ i, i < m → A i = C i) : rows A m = rows C m := by
  unfold rows; exact List.map_congr_left fun i hi => h i (List.mem_range.1 hi)
theorem rows_of_list (E : List Vc) : rows (fun k => E.getD k v0) E.length = E := by
  unfold rows
  apply List.ext_getElem
  · simp
  · intro i h1 h2
    simp only [List.getElem_map, List.getElem_range]
    rw [List.getD_eq_getElem?_getD, List.getElem?_eq_getElem h2]; rfl

/-- The combination of the first k vectors by these coefficients. -/
def lc (cs : Nat → B) (A : Nat → Vc) (k : Nat) : Vc := fun j => sm (fun t => cs t * A t j) k

theorem lc_congr {cs ds : Nat → B} {A C : Nat → Vc} {k : Nat} (h : ∀ i, i < k → cs i = ds i) (h' : ∀ i, i < k → A i = C i) : lc cs A k = lc ds C k :=
  funext fun j => sm_congr fun i hi => by rw [h i hi, h' i hi]
theorem lc_succ (cs : Nat → B) (A : Nat → Vc) (k : Nat) : lc cs A (k + 1) = va (lc cs A k) (vs (cs k) (A k)) := rfl
theorem lc_sp (cs : Nat → B) (A : Nat → Vc) : ∀ k, Sp (rows A k) (lc cs A k)
  | 0 => Sp.zero
  | k + 1 => by
    rw [lc_succ, rows_succ]
    exact ((lc_sp cs A k).sub fun v hv => List.mem_append_left _ hv).add ((Sp.mem (by simp)).smul _)
theorem lc_add (cs ds : Nat → B) (A : Nat → Vc) (k : Nat) : lc (fun t => cs t + ds t) A k = va (lc cs A k) (lc ds A k) :=
  funext fun j => by
    show sm (fun t => (cs t + ds t) * A t j) k = sm (fun t => cs t * A t j) k + sm (fun t => ds t * A t j) k
    rw [← sm_add]; exact sm_congr fun i _ => badd_mul _ _ _
theorem lc_smul (c : B) (cs : Nat → B) (A : Nat → Vc) (k : Nat) : lc (fun t => c * cs t) A k = vs c (lc cs A k) :=
  funext fun j => by
    show sm (fun t => c * cs t * A t j) k = c * sm (fun t => cs t * A t j) k
    rw [← sm_mul]; exact sm_congr fun i _ => bmul_assoc _ _ _
theorem lc_single {c : B} {A : Nat → Vc} {k t : Nat} (ht : t < k) : lc (fun i => if i = t then c else 0) A k = vs c (A t) :=
  funext fun j => by
    show sm (fun i => (if i = t then c else 0) * A i j) k = c * A t j
    rw [sm_one ht fun i _ hne => by rw [if_neg hne, bzero_mul], if_pos rfl]
theorem sp_lc {A : Nat → Vc} {k : Nat} {v : Vc} (h : Sp (rows A k) v) : ∃ cs, v = lc cs A k := by
  induction h with
  | zero => exact ⟨fun _ => 0, funext fun j => (sm_zero fun i _ => bzero_mul _).symm⟩
  | more c hv _ ih =>
    obtain ⟨ds, rfl⟩ := ih
    obtain ⟨t, ht, rfl⟩ := mem_rows.1 hv
    exact ⟨fun i => (if i = t then c else 0) + ds i, by rw [lc_add, lc_single ht]⟩
theorem lc_short {n : Nat} {cs : Nat → B} {A : Nat → Vc} {k : Nat} (h : ∀ i, i < k → Short n (A i)) : Short n (lc cs A k) :=
  (lc_sp cs A k).within (Short.lin n) fun v hv => by obtain ⟨i, hi, rfl⟩ := mem_rows.1 hv; exact h i hi

/-! ### Turned -/

/-- The columns of the first m rows, as rows. -/
def trn (m : Nat) (A : Nat → Vc) : Nat → Vc := fun j i => if i < m then A i j else 0

theorem trn_short (m : Nat) (A : Nat → Vc) (j : Nat) : Short m (trn m A j) := fun i hi => if_neg (by omega)
theorem trn_trn {m n : Nat} {A : Nat → Vc} (hs : ∀ i, i < m → Short n (A i)) {i : Nat} (hi : i < m) : trn n (trn m A) i = A i :=
  funext fun j => by
    show (if j < n then (if i < m then A i j else 0) else 0) = A i j
    rw [if_pos hi]
    split
    · rfl
    · exact (hs i hi j (by omega)).symm

theorem choose_all {P : Nat → (Nat → B) → Prop} {m : Nat} (h : ∀ i, i < m → ∃ c, P i c) : ∃ C : Nat → Nat → B, ∀ i, i < m → P i (C i) := by
  induction m with
  | zero => exact ⟨fun _ _ => 0, fun i hi => by omega⟩
  | succ m ih =>
    obtain ⟨C, hC⟩ := ih fun i hi => h i (by omega)
    obtain ⟨c, hc⟩ := h m (by omega)
    refine ⟨fun i => if i = m then c else C i, fun i hi => ?_⟩
    by_cases e : i = m
    · subst e; simpa using hc
    · simp only [e, if_false]; exact hC i (by omega)

theorem rk_turn_le {m n : Nat} {A : Nat → Vc} (hs : ∀ i, i < m → Short n (A i)) : rk m (Sp (rows (trn m A) n)) ≤ rk n (Sp (rows A m)) := by
  have hsL : ∀ v ∈ rows A m, Short n v := fun v hv => by obtain ⟨i, hi, rfl⟩ := mem_rows.1 hv; exact hs i hi
  obtain ⟨E, hE, hS, hI, _⟩ := exists_ech (rows A m) hsL
  rw [← rk_congr hI, rk_ech hE hS]
  have hc : ∀ i, i < m → ∃ c : Nat → B, A i = lc c (fun k => E.getD k v0) E.length := fun i hi => by
    have := (hI (A i)).2 (Sp.mem (mem_rows.2 ⟨i, hi, rfl⟩))
    rw [← rows_of_list E] at this
    exact sp_lc this
  obtain ⟨C, hC⟩ := choose_all hc
  have hle := rk_le_length (n := m) (rows (trn m C) E.length) fun v hv => by
    obtain ⟨i, _, rfl⟩ := mem_rows.1 hv; exact trn_short _ _ _
  rw [rows_length] at hle
  refine Nat.le_trans (rk_mono fun v hv => ?_) hle
  refine hv.mono fun y hy => ?_
  obtain ⟨j, hj, rfl⟩ := mem_rows.1 hy
  have e : trn m A j = lc (fun t => (E.getD t v0) j) (trn m C) E.length := funext fun i => by
    show (if i < m then A i j else 0) = sm (fun t => (E.getD t v0) j * (if i < m then C i t else 0)) E.length
    by_cases hi : i < m
    · simp only [hi, if_true]
      rw [hC i hi]
      exact sm_congr fun t _ => bmul_comm _ _
    · simp only [hi, if_false]
      exact (sm_zero fun t _ => bmul_zero _).symm
  rw [e]; exact lc_sp _ _ _

/-- Rows and columns have one rank. -/
theorem rk_turn {m n : Nat} {A : Nat → Vc} (hs : ∀ i, i < m → Short n (A i)) : rk m (Sp (rows (trn m A) n)) = rk n (Sp (rows A m)) := by
  refine Nat.le_antisymm (rk_turn_le hs) ?_
  have h := rk_turn_le (m := n) (n := m) (A := trn m A) fun i _ => trn_short m A i
  rwa [rows_congr fun i hi => trn_trn hs hi] at h

/-! ### Products -/

/-- The product: row by row the combination. -/
def mm (A C : Nat → Vc) (k : Nat) : Nat → Vc := fun i => lc (A i) C k

theorem rk_mm_right {m n k : Nat} (A C : Nat → Vc) : rk n (Sp (rows (mm A C k) m)) ≤ rk n (Sp (rows C k)) :=
  rk_mono fun v hv => hv.mono fun y hy => by
    obtain ⟨i, _, rfl⟩ := mem_rows.1 hy; exact lc_sp _ _ _
theorem rk_mm_left {m n k : Nat} {A C : Nat → Vc} (hA : ∀ i, i < m → Short k (A i)) (hC : ∀ i, i < k → Short n (C i)) : rk n (Sp (rows (mm A C k) m)) ≤ rk k (Sp (rows A m)) := by
  have hP : ∀ i, i < m → Short n (mm A C k i) := fun i _ => lc_short hC
  rw [← rk_turn hP, ← rk_turn hA]
  refine rk_mono fun v hv => hv.mono fun y hy => ?_
  obtain ⟨j, hj, rfl⟩ := mem_rows.1 hy
  have e : trn m (mm A C k) j = lc (fun t => C t j) (trn m A) k := funext fun i => by
    show (if i < m then sm (fun t => A i t * C t j) k else 0) = sm (fun t => C t j * (if i < m then A i t else 0)) k
    by_cases hi : i < m
    · simp only [hi, if_true]; exact sm_congr fun t _ => bmul_comm _ _
    · simp only [hi, if_false]; exact (sm_zero fun t _ => bmul_zero _).symm
  rw [e]; exact lc_sp _ _ _

theorem mm_assoc (A C D : Nat → Vc) (k l i : Nat) : mm (mm A C k) D l i = mm A (mm C D l) k i := funext fun j => by
  show sm (fun s => sm (fun t => A i t * C t s) k * D s j) l = sm (fun t => A i t * sm (fun s => C t s * D s j) l) k
  have e1 : ∀ s, s < l → sm (fun t => A i t * C t s) k * D s j = sm (fun t => A i t * (C t s * D s j)) k := fun s _ => by
    rw [← sm_mul_right]; exact sm_congr fun t _ => bmul_assoc _ _ _
  have e2 : ∀ t, t < k → A i t * sm (fun s => C t s * D s j) l = sm (fun s => A i t * (C t s * D s j)) l := fun t _ => (sm_mul _ _ _).symm
  rw [sm_congr e1, sm_congr e2]
  exact (sm_swap (fun s t => A i t * (C t s * D s j)) k l)

/-- The unit. -/
def idn (n : Nat) : Nat → Vc := fun i j => if i = j ∧ i < n then 1 else 0

theorem idn_short (n i : Nat) : Short n (idn n i) := fun j hj => if_neg (by omega)
theorem idn_mm {n i : Nat} (A : Nat → Vc) (hi : i < n) : mm (idn n) A n i = A i := funext fun j => by
  show sm (fun t => (if i = t ∧ i < n then 1 else 0) * A t j) n = A i j
  rw [sm_one hi fun t _ hne => by rw [if_neg (by omega), bzero_mul], if_pos ⟨rfl, hi⟩, bone_mul]
theorem mm_idn {n i : Nat} {A : Nat → Vc} (hs : Short n (A i)) : mm A (idn n) n i = A i := funext fun j => by
  show sm (fun t => A i t * (if t = j ∧ t < n then 1 else 0)) n = A i j
  by_cases hj : j < n
  · rw [sm_one hj fun t _ hne => by rw [if_neg (by omega), bmul_zero], if_pos ⟨rfl, hj⟩, bmul_one]
  · rw [hs j (by omega)]
    exact sm_zero fun t ht => by rw [if_neg (by omega), bmul_zero]
theorem idn_lead {n i : Nat} (hi : i < n) : Lead (idn n i) i := ⟨by
  show (if i = i ∧ i < n then (1 : B) else 0) ≠ 0
  rw [if_pos ⟨rfl, hi⟩]; exact bone_ne, fun j hj => if_neg (by omega)⟩
theorem idn_ech (n : Nat) : Ech (rows (idn n) n) := by
  refine ⟨fun e he => ?_, ?_⟩
  · obtain ⟨i, hi, rfl⟩ := mem_rows.1 he; exact ⟨i, idn_lead hi⟩
  · unfold rows
    rw [List.pairwise_map]
    refine (List.pairwise_lt_range (n := n)).imp_of_mem fun {a b} ha hb hab i hx hy => ?_
    rw [List.mem_range] at ha hb
    have h1 := hx.unique (idn_lead ha)
    have h2 := hy.unique (idn_lead hb)
    omega
theorem rk_idn (n : Nat) : rk n (Sp (rows (idn n) n)) = n := by
  rw [rk_ech (idn_ech n) fun e he => by obtain ⟨i, hi, rfl⟩ := mem_rows.1 he; exact idn_short n i, rows_length]

/-- Of full rank: there is a left inverse. -/
theorem left_inverse {n : Nat} {A : Nat → Vc} (hs : ∀ i, i < n → Short n (A i)) (h : rk n (Sp (rows A n)) = n) : ∃ Q : Nat → Vc, ∀ i, i < n → mm Q A n i = idn n i := by
  have hc : ∀ i, i < n → ∃ c : Nat → B, idn n i = lc c A n := fun i _ =>
    sp_lc (full_all (fun v hv => by obtain ⟨i, hi, rfl⟩ := mem_rows.1 hv; exact hs i hi) h (idn_short n i))
  obtain ⟨C, hC⟩ := choose_all hc
  exact ⟨C, fun i hi => (hC i hi).symm⟩

/-- What has an inverse has full rank. -/
theorem full_of_mm {n : Nat} {A C : Nat → Vc} (hA : ∀ i, i < n → Short n (A i)) (hC : ∀ i, i < n → Short n (C i)) (h : ∀ i, i < n → mm A C n i = idn n i) : rk n (Sp (rows A n)) = n ∧ rk n (Sp (rows C n)) = n := by
  have h1 := rk_mm_left (m := n) hA hC
  have h2 := rk_mm_right (m := n) (n := n) (k := n) A C
  rw [rows_congr h, rk_idn] at h1 h2
  exact ⟨Nat.le_antisymm (rk_le _ _) h1, Nat.le_antisymm (rk_le _ _) h2⟩

/-- An inverse from one side is one from the other one. -/
theorem mm_turn {n : Nat} {A C : Nat → Vc} (hA : ∀ i, i < n → Short n (A i)) (hC : ∀ i, i < n → Short n (C i)) (h : ∀ i, i < n → mm A C n i = idn n i) : ∀ i, i < n → mm C A n i = idn n i := by
  obtain ⟨Q, hQ⟩ := left_inverse hA (full_of_mm hA hC h).1
  intro i hi
  have e : ∀ t, t < n → C t = mm Q (idn n) n t := fun t ht => by
    rw [← idn_mm C ht]
    have e1 : mm (idn n) C n t = mm (mm Q A n) C n t := lc_congr (fun s _ => by rw [hQ t ht]) fun _ _ => rfl
    rw [e1, mm_assoc]
    exact lc_congr (fun _ _ => rfl) h
  have e2 : mm C A n i = mm Q A n i := by
    have e3 : mm C A n i = mm (mm Q (idn n) n) A n i := lc_congr (fun s _ => by rw [e i hi]) fun _ _ => rfl
    rw [e3, mm_assoc]
    exact lc_congr (fun _ _ => rfl) fun s hs => idn_mm A hs
  rw [e2, hQ i hi]

/-- The inverse of an inverse. -/
theorem inverse_back {n : Nat} {A C D : Nat → Vc} (hA : ∀ i, i < n → Short n (A i)) (h : ∀ i, i < n → mm A C n i = idn n i) (k : ∀ i, i < n → mm C D n i = idn n i) {i : Nat} (hi : i < n) : D i = A i := by
  have e1 : mm (mm A C n) D n i = D i := by
    have : mm (mm A C n) D n i = mm (idn n) D n i := lc_congr (fun s _ => by rw [h i hi]) fun _ _ => rfl
    rw [this, idn_mm D hi]
  have e2 : mm A (mm C D n) n i = A i := by
    have : mm A (mm C D n) n i = mm A (idn n) n i := lc_congr (fun _ _ => rfl) k
    rw [this, mm_idn (hA i hi)]
  rw [← e1, mm_assoc, e2]

/-- Fewer ranks than rows: one is in the span of the others. -/
theorem dependent {n : Nat} : ∀ L : List Vc, (∀ v ∈ L, Short n v) → rk n (Sp L) < L.length → ∃ xs v ys, L = xs ++ v :: ys ∧ Sp (xs ++ ys) v
  | [], _, h => by simp at h
  | v :: L, hs, h => by
    by_cases hv : Sp L v
    · exact ⟨[], v, L, rfl, hv⟩
    · have hs' : ∀ x ∈ L, Short n x := fun x hx => hs x (List.mem_cons_of_mem _ hx)
      rw [rk_out hs' (hs v List.mem_cons_self) hv, List.length_cons] at h
      obtain ⟨xs, u, ys, rfl, hu⟩ := dependent L hs' (by omega)
      exact ⟨v :: xs, u, ys, rfl, hu.sub fun z hz => List.mem_cons_of_mem _ hz⟩

end La
end Go.Proofs.Ytohfcdgpllghbaa
