/- Texts of one seat, laid together: La, LaB, LaC, RefElimD, LaL, LaM, LaN. -/
import Derived.Test.YtphdadibfeencaaGreatSolveHoldsQ1
import Derived.Test.YtphdadibfeencaaGreatSolveHoldsQ9

/-
  Linear algebra over bytes (layers 7 to 9), first part: the field as a type, sums, vectors, spans, where they lead, ranks. No program in this text.
-/
set_option maxRecDepth 100000
namespace Go.Proofs.YtphdadibfeencaaGreat
namespace La

/-- A byte, as an element of the field. -/
structure B where
  val : Nat
  lt : val < 256

theorem B.ext {a b : B} (h : a.val = b.val) : a = b := by
  cases a; cases b; cases h; rfl

instance : OfNat B 0 := ⟨⟨0, by decide⟩⟩
instance : OfNat B 1 := ⟨⟨1, by decide⟩⟩
instance : Add B := ⟨fun a b => ⟨a.val ^^^ b.val, Gf.xor_lt a.lt b.lt⟩⟩
instance : Mul B := ⟨fun a b => ⟨Gf.mul a.val b.val, Gf.mul_lt a.lt b.val⟩⟩
instance : DecidableEq B := fun a b => if h : a.val = b.val then isTrue (B.ext h) else isFalse (fun e => h (by rw [e]))

/-- The inverse, and 0 of 0. -/
def iv (a : B) : B := ⟨Gf.inv a.val, Gf.inv_lt a.val⟩

theorem val_add (a b : B) : (a + b).val = a.val ^^^ b.val := rfl
theorem val_mul (a b : B) : (a * b).val = Gf.mul a.val b.val := rfl
theorem ne_val {a : B} (h : a ≠ 0) : a.val ≠ 0 := fun e => h (B.ext e)

theorem badd_comm (a b : B) : a + b = b + a := B.ext (Nat.xor_comm _ _)
theorem badd_assoc (a b c : B) : a + b + c = a + (b + c) := B.ext (Nat.xor_assoc _ _ _)
theorem badd_zero (a : B) : a + 0 = a := B.ext (Nat.xor_zero _)
theorem bzero_add (a : B) : 0 + a = a := B.ext (Nat.zero_xor _)
theorem badd_self (a : B) : a + a = 0 := B.ext (Nat.xor_self _)
theorem bmul_comm (a b : B) : a * b = b * a := B.ext (Gf.mul_comm a.lt b.lt)
theorem bmul_assoc (a b c : B) : a * b * c = a * (b * c) := B.ext (Gf.mul_assoc a.lt b.lt c.val)
theorem bmul_zero (a : B) : a * 0 = 0 := B.ext (Gf.mul_zero _)
theorem bzero_mul (a : B) : 0 * a = 0 := B.ext (Gf.zero_mul _)
theorem bmul_one (a : B) : a * 1 = a := B.ext (Gf.mul_one a.lt)
theorem bone_mul (a : B) : 1 * a = a := B.ext (Gf.one_mul a.lt)
theorem bmul_add (a b c : B) : a * (b + c) = a * b + a * c := B.ext (Gf.mul_xor_right _ _ _)
theorem badd_mul (a b c : B) : (a + b) * c = a * c + b * c := B.ext (Gf.mul_xor_left a.lt b.lt _)
theorem iv_mul {a : B} (h : a ≠ 0) : iv a * a = 1 := B.ext (Gf.inv_mul a.lt (ne_val h))
theorem bmul_ne {a b : B} (h : a ≠ 0) (k : b ≠ 0) : a * b ≠ 0 := fun e => by
  have h1 : iv a * (a * b) = 0 := by rw [e, bmul_zero]
  rw [← bmul_assoc, iv_mul h, bone_mul] at h1
  exact k h1

instance : Std.Associative (α := B) (· + ·) := ⟨badd_assoc⟩
instance : Std.Commutative (α := B) (· + ·) := ⟨badd_comm⟩
instance : Std.Associative (α := B) (· * ·) := ⟨bmul_assoc⟩
instance : Std.Commutative (α := B) (· * ·) := ⟨bmul_comm⟩

theorem badd_cancel (a b : B) : a + (a + b) = b := by rw [← badd_assoc, badd_self, bzero_add]
/-! ### Sums -/

/-- The sum of the first n. -/
def sm (f : Nat → B) : Nat → B
  | 0 => 0
  | n + 1 => sm f n + f n

theorem sm_zero {f : Nat → B} {n : Nat} (h : ∀ i, i < n → f i = 0) : sm f n = 0 := by
  induction n with
  | zero => rfl
  | succ n ih => show sm f n + f n = 0; rw [ih fun i hi => h i (by omega), h n (by omega), badd_zero]
theorem sm_add (f g : Nat → B) : ∀ n : Nat, sm (fun i => f i + g i) n = sm f n + sm g n
  | 0 => (badd_zero 0).symm
  | n + 1 => by
    show sm (fun i => f i + g i) n + (f n + g n) = (sm f n + f n) + (sm g n + g n)
    rw [sm_add f g n]; ac_rfl
/-- A sum of which only one isn't 0. -/
theorem sm_one {f : Nat → B} {n k : Nat} (hk : k < n) (h : ∀ i, i < n → i ≠ k → f i = 0) : sm f n = f k := by
  induction n with
  | zero => omega
  | succ n ih =>
    show sm f n + f n = f k
    by_cases e : k = n
    · subst e
      rw [sm_zero fun i hi => h i (by omega) (by omega), bzero_add]
    · rw [ih (by omega) fun i hi hn => h i (by omega) hn, h n (by omega) (fun e' => e e'.symm), badd_zero]
/-! ### Vectors -/

abbrev Vc := Nat → B

def v0 : Vc := fun _ => 0
def va (x y : Vc) : Vc := fun i => x i + y i
def vs (c : B) (x : Vc) : Vc := fun i => c * x i

theorem va_comm (x y : Vc) : va x y = va y x := funext fun _ => badd_comm _ _
theorem va_assoc (x y z : Vc) : va (va x y) z = va x (va y z) := funext fun _ => badd_assoc _ _ _
theorem va_zero (x : Vc) : va x v0 = x := funext fun _ => badd_zero _
theorem v0_va (x : Vc) : va v0 x = x := funext fun _ => bzero_add _
theorem va_self (x : Vc) : va x x = v0 := funext fun _ => badd_self _
theorem va_cancel (x y : Vc) : va x (va x y) = y := funext fun _ => badd_cancel _ _
theorem vs_va (c : B) (x y : Vc) : vs c (va x y) = va (vs c x) (vs c y) := funext fun _ => bmul_add _ _ _
theorem vs_add (c d : B) (x : Vc) : vs (c + d) x = va (vs c x) (vs d x) := funext fun _ => badd_mul _ _ _
theorem vs_vs (c d : B) (x : Vc) : vs c (vs d x) = vs (c * d) x := funext fun _ => (bmul_assoc _ _ _).symm
theorem vs_zero (c : B) : vs c v0 = v0 := funext fun _ => bmul_zero _
theorem zero_vs (x : Vc) : vs 0 x = v0 := funext fun _ => bzero_mul _
theorem one_vs (x : Vc) : vs 1 x = x := funext fun _ => bone_mul _

/-- A set of vectors that is closed: 0, sums, multiples. -/
structure Lin (W : Vc → Prop) : Prop where
  zero : W v0
  add : ∀ {x y}, W x → W y → W (va x y)
  smul : ∀ {x} (c : B), W x → W (vs c x)

theorem Lin.of_sum {W : Vc → Prop} (h : Lin W) {x y : Vc} (hx : W x) (hs : W (va x y)) : W y := by
  have := h.add hx hs
  rwa [va_cancel] at this
theorem Lin.of_sum' {W : Vc → Prop} (h : Lin W) {x y : Vc} (hy : W y) (hs : W (va x y)) : W x := h.of_sum hy (by rwa [va_comm])

/-- The span of a list. -/
inductive Sp (L : List Vc) : Vc → Prop
  | zero : Sp L v0
  | more {v w : Vc} (c : B) (hv : v ∈ L) (hw : Sp L w) : Sp L (va (vs c v) w)

theorem Sp.mem {L : List Vc} {v : Vc} (h : v ∈ L) : Sp L v := by
  have := Sp.more 1 h Sp.zero
  rwa [va_zero, one_vs] at this
theorem Sp.add {L : List Vc} {x y : Vc} (hx : Sp L x) (hy : Sp L y) : Sp L (va x y) := by
  induction hx with
  | zero => rwa [v0_va]
  | more c hv _ ih => rw [va_assoc]; exact Sp.more c hv ih
theorem Sp.smul {L : List Vc} {x : Vc} (c : B) (hx : Sp L x) : Sp L (vs c x) := by
  induction hx with
  | zero => rw [vs_zero]; exact Sp.zero
  | more d hv _ ih => rw [vs_va, vs_vs]; exact Sp.more _ hv ih
theorem Sp.lin (L : List Vc) : Lin (Sp L) := ⟨Sp.zero, Sp.add, Sp.smul⟩
/-- What is closed and has the list's vectors has their span. -/
theorem Sp.within {L : List Vc} {W : Vc → Prop} (hW : Lin W) (h : ∀ v ∈ L, W v) {x : Vc} (hx : Sp L x) : W x := by
  induction hx with
  | zero => exact hW.zero
  | more c hv _ ih => exact hW.add (hW.smul c (h _ hv)) ih
theorem Sp.mono {L M : List Vc} (h : ∀ v ∈ L, Sp M v) {x : Vc} (hx : Sp L x) : Sp M x := hx.within (Sp.lin M) h
theorem Sp.sub {L M : List Vc} (h : ∀ v ∈ L, v ∈ M) {x : Vc} (hx : Sp L x) : Sp M x := hx.mono fun v hv => Sp.mem (h v hv)
theorem Sp.nil {x : Vc} (h : Sp [] x) : x = v0 := by
  cases h with
  | zero => rfl
  | more c hv _ => cases hv
theorem Sp.cons {e : Vc} {L : List Vc} {x : Vc} : Sp (e :: L) x ↔ ∃ c w, Sp L w ∧ x = va (vs c e) w := by
  constructor
  · intro h
    induction h with
    | zero => exact ⟨0, v0, Sp.zero, by rw [zero_vs, va_zero]⟩
    | more c hv _ ih =>
      obtain ⟨d, w, hw, rfl⟩ := ih
      rcases List.mem_cons.1 hv with rfl | hm
      · exact ⟨c + d, w, hw, by rw [vs_add, va_assoc]⟩
      · exact ⟨d, va (vs c _) w, Sp.more c hm hw, by rw [← va_assoc, va_comm (vs c _), va_assoc]⟩
  · rintro ⟨c, w, hw, rfl⟩
    exact Sp.more c (List.mem_cons_self) (hw.sub fun v hv => List.mem_cons_of_mem _ hv)
/-! ### Where vectors lead -/

def Lead (v : Vc) (i : Nat) : Prop := v i ≠ 0 ∧ ∀ j, j < i → v j = 0

theorem Lead.unique {v : Vc} {i j : Nat} (h : Lead v i) (k : Lead v j) : i = j := by
  rcases Nat.lt_trichotomy i j with hl | he | hl
  · exact absurd (k.2 i hl) h.1
  · exact he
  · exact absurd (h.2 j hl) k.1
theorem exists_lead {v : Vc} : ∀ i : Nat, v i ≠ 0 → ∃ j, j ≤ i ∧ Lead v j := by
  intro i
  induction i using Nat.strongRecOn with
  | _ i ih =>
    intro h
    by_cases hz : ∀ j, j < i → v j = 0
    · exact ⟨i, Nat.le_refl _, h, hz⟩
    · obtain ⟨j, hj⟩ := Classical.not_forall.1 hz
      obtain ⟨hj, hn⟩ := Classical.not_imp.1 hj
      obtain ⟨k, hk, hl⟩ := ih j hj hn
      exact ⟨k, by omega, hl⟩
theorem lead_of_ne {v : Vc} (h : v ≠ v0) : ∃ j, Lead v j := by
  by_cases hz : ∀ i, v i = 0
  · exact absurd (funext hz) h
  · obtain ⟨i, hi⟩ := Classical.not_forall.1 hz
    obtain ⟨j, _, hj⟩ := exists_lead i hi
    exact ⟨j, hj⟩

/-- Nothing stands at n or behind. -/
def Short (n : Nat) (v : Vc) : Prop := ∀ i, n ≤ i → v i = 0
theorem Short.lin (n : Nat) : Lin (Short n) := ⟨fun _ _ => rfl, fun hx hy i hi => by show _ + _ = _; rw [hx i hi, hy i hi, badd_zero], fun c hx i hi => by show _ * _ = _; rw [hx i hi, bmul_zero]⟩
theorem Short.lead {n i : Nat} {v : Vc} (h : Short n v) (hl : Lead v i) : i < n := by
  by_cases hi : i < n
  · exact hi
  · exact absurd (h i (by omega)) hl.1

/-- Rows that lead, no two at one place. -/
structure Ech (E : List Vc) : Prop where
  ne : ∀ e ∈ E, ∃ i, Lead e i
  apart : E.Pairwise fun x y => ∀ i, Lead x i → ¬ Lead y i

theorem Ech.nil : Ech [] := ⟨fun e h => (by cases h), List.Pairwise.nil⟩
theorem Ech.tail {e : Vc} {E : List Vc} (h : Ech (e :: E)) : Ech E := ⟨fun x hx => h.ne x (List.mem_cons_of_mem _ hx), (List.pairwise_cons.1 h.apart).2⟩

/-- What such rows span leads where one of them does. -/
theorem Ech.lead {E : List Vc} (h : Ech E) : ∀ {v : Vc} {i : Nat}, Sp E v → Lead v i → ∃ e ∈ E, Lead e i := by
  induction E with
  | nil => intro v i hv hl; rw [hv.nil] at hl; exact absurd rfl hl.1
  | cons e E ih =>
    intro v i hv hl
    obtain ⟨c, w, hw, rfl⟩ := Sp.cons.1 hv
    obtain ⟨a, ha⟩ := h.ne e List.mem_cons_self
    have hl1 : c * e i + w i ≠ 0 := hl.1
    have hl2 : ∀ j, j < i → c * e j + w j = 0 := hl.2
    rcases Nat.lt_trichotomy i a with hia | rfl | hia
    · have hw' : Lead w i := ⟨by rw [ha.2 i hia, bmul_zero, bzero_add] at hl1; exact hl1, fun j hj => by
        have := hl2 j hj
        rwa [ha.2 j (by omega), bmul_zero, bzero_add] at this⟩
      obtain ⟨x, hx, hxl⟩ := ih h.tail hw hw'
      exact ⟨x, List.mem_cons_of_mem _ hx, hxl⟩
    · exact ⟨e, List.mem_cons_self, ha⟩
    · by_cases hc : c = 0
      · subst hc
        have hw' : Lead w i := ⟨by rwa [bzero_mul, bzero_add] at hl1, fun j hj => by
          have := hl2 j hj
          rwa [bzero_mul, bzero_add] at this⟩
        obtain ⟨x, hx, hxl⟩ := ih h.tail hw hw'
        exact ⟨x, List.mem_cons_of_mem _ hx, hxl⟩
      · have hw' : Lead w a := ⟨fun hz => by
          have := hl2 a hia
          rw [hz, badd_zero] at this
          exact bmul_ne hc ha.1 this, fun j hj => by
          have := hl2 j (by omega)
          rwa [ha.2 j hj, bmul_zero, bzero_add] at this⟩
        obtain ⟨x, hx, hxl⟩ := ih h.tail hw hw'
        exact absurd hxl ((List.pairwise_cons.1 h.apart).1 x hx a ha)

/-- Any vector is, by what such rows span, one that is 0 wherever one of them leads. -/
theorem Ech.rest (E : List Vc) (v : Vc) : ∀ n : Nat, ∃ r, Sp E (va v r) ∧ ∀ i, i < n → (∃ e ∈ E, Lead e i) → r i = 0
  | 0 => ⟨v, by rw [va_self]; exact Sp.zero, fun i hi => by omega⟩
  | n + 1 => by
    obtain ⟨r, hr, h0⟩ := Ech.rest E v n
    by_cases hn : ∃ e ∈ E, Lead e n
    · obtain ⟨e, he, hl⟩ := hn
      refine ⟨va (vs (r n * iv (e n)) e) r, ?_, fun i hi hle => ?_⟩
      · rw [va_comm, va_assoc, va_comm r v]; exact Sp.more _ he hr
      · show r n * iv (e n) * e i + r i = 0
        by_cases hin : i = n
        · subst hin
          rw [bmul_assoc, iv_mul hl.1, bmul_one, badd_self]
        · rw [hl.2 i (by omega), bmul_zero, bzero_add]
          exact h0 i (by omega) hle
    · refine ⟨r, hr, fun i hi hle => ?_⟩
      by_cases hin : i = n
      · subst hin; exact absurd hle hn
      · exact h0 i (by omega) hle

/-! ### Ranks -/

/-- Does some vector of these lead there? -/
def Ld (W : Vc → Prop) (i : Nat) : Prop := ∃ v, W v ∧ Lead v i

open Classical in
/-- At how many of the first n places some vector leads. -/
noncomputable def rk (n : Nat) (W : Vc → Prop) : Nat := (List.range n).countP fun i => decide (Ld W i)

open Classical in
theorem rk_mono {n : Nat} {W U : Vc → Prop} (h : ∀ v, W v → U v) : rk n W ≤ rk n U := by
  unfold rk
  apply List.countP_mono_left
  intro i _ hi
  rw [decide_eq_true_eq] at hi ⊢
  obtain ⟨v, hv, hl⟩ := hi
  exact ⟨v, h v hv, hl⟩
theorem rk_congr {n : Nat} {W U : Vc → Prop} (h : ∀ v, W v ↔ U v) : rk n W = rk n U := Nat.le_antisymm (rk_mono fun v => (h v).1) (rk_mono fun v => (h v).2)
theorem rk_le (n : Nat) (W : Vc → Prop) : rk n W ≤ n := by
  have := List.countP_le_length (p := fun i => @decide (Ld W i) (Classical.propDecidable _)) (l := List.range n)
  rwa [List.length_range] at this

theorem countP_or {p q r : Nat → Bool} (l : List Nat) (h : ∀ i ∈ l, r i = (p i || q i)) (hd : ∀ i ∈ l, ¬ (p i = true ∧ q i = true)) : l.countP r = l.countP p + l.countP q := by
  induction l with
  | nil => rfl
  | cons x l ih =>
    have h1 := h x List.mem_cons_self
    have h2 := hd x List.mem_cons_self
    rw [List.countP_cons, List.countP_cons, List.countP_cons, ih (fun i hi => h i (List.mem_cons_of_mem _ hi)) (fun i hi => hd i (List.mem_cons_of_mem _ hi)), h1]
    cases hp : p x <;> cases hq : q x <;> simp_all <;> omega
theorem countP_eq_one {n k : Nat} (hk : k < n) : (List.range n).countP (fun i => decide (i = k)) = 1 := by
  induction n with
  | zero => omega
  | succ n ih =>
    rw [List.range_succ, List.countP_append]
    by_cases e : k = n
    · subst e
      have : (List.range k).countP (fun i => decide (i = k)) = 0 := by
        rw [List.countP_eq_zero]; intro i hi; rw [List.mem_range] at hi; simp; omega
      rw [this]; simp
    · rw [ih (by omega)]
      have : ¬ n = k := fun h => e h.symm
      simp [this]

/-- Does one of these rows lead there? -/
def Led (E : List Vc) (i : Nat) : Prop := ∃ e ∈ E, Lead e i

open Classical in
theorem rk_ech {n : Nat} {E : List Vc} (h : Ech E) (hs : ∀ e ∈ E, Short n e) : rk n (Sp E) = E.length := by
  have key : ∀ i, Ld (Sp E) i ↔ ∃ e ∈ E, Lead e i := fun i => ⟨fun ⟨v, hv, hl⟩ => h.lead hv hl, fun ⟨e, he, hl⟩ => ⟨e, Sp.mem he, hl⟩⟩
  have e1 : rk n (Sp E) = (List.range n).countP fun i => @decide (Led E i) (Classical.propDecidable _) := by
    unfold rk
    apply List.countP_congr
    intro i _
    rw [decide_eq_true_eq, decide_eq_true_eq]
    exact key i
  rw [e1]
  clear e1 key
  induction E with
  | nil => simp [Led]
  | cons e E ih =>
    obtain ⟨a, ha⟩ := h.ne e List.mem_cons_self
    have hlt : a < n := (hs e List.mem_cons_self).lead ha
    rw [countP_or (p := fun i => decide (i = a)) (q := fun i => @decide (Led E i) (Classical.propDecidable _)), countP_eq_one hlt, ih h.tail (fun x hx => hs x (List.mem_cons_of_mem _ hx)), List.length_cons, Nat.add_comm]
    · intro i _
      rw [Bool.eq_iff_iff, Bool.or_eq_true, decide_eq_true_eq, decide_eq_true_eq, decide_eq_true_eq]
      constructor
      · rintro ⟨x, hx, hl⟩
        rcases List.mem_cons.1 hx with rfl | hx
        · exact Or.inl (hl.unique ha)
        · exact Or.inr ⟨x, hx, hl⟩
      · rintro (rfl | ⟨x, hx, hl⟩)
        · exact ⟨e, List.mem_cons_self, ha⟩
        · exact ⟨x, List.mem_cons_of_mem _ hx, hl⟩
    · rintro i _ ⟨h1, h2⟩
      rw [decide_eq_true_eq] at h1 h2
      subst h1
      obtain ⟨x, hx, hl⟩ := h2
      exact (List.pairwise_cons.1 h.apart).1 x hx i ha hl

/-- A row more, of which something is left, makes a basis of one more. -/
theorem Ech.more {E : List Vc} (h : Ech E) {r : Vc} {n : Nat} (hr : Short n r) (h0 : ∀ i, i < n → (∃ e ∈ E, Lead e i) → r i = 0) (hne : r ≠ v0) : Ech (r :: E) := by
  obtain ⟨a, ha⟩ := lead_of_ne hne
  refine ⟨fun e he => ?_, List.pairwise_cons.2 ⟨fun x hx i hi hl => ?_, h.apart⟩⟩
  · rcases List.mem_cons.1 he with rfl | he
    · exact ⟨a, ha⟩
    · exact h.ne e he
  · exact hi.1 (h0 i (hr.lead hi) ⟨x, hx, hl⟩)

/-- Whatever vectors: rows that lead, no two at one place, of the same span; as many at most. -/
theorem exists_ech {n : Nat} : ∀ L : List Vc, (∀ v ∈ L, Short n v) → ∃ E, Ech E ∧ (∀ e ∈ E, Short n e) ∧ (∀ v, Sp E v ↔ Sp L v) ∧ E.length ≤ L.length
  | [], _ => ⟨[], Ech.nil, fun e h => (by cases h), fun _ => Iff.rfl, Nat.le_refl _⟩
  | v :: L, hs => by
    obtain ⟨E, hE, hS, hI, hlen⟩ := exists_ech L fun x hx => hs x (List.mem_cons_of_mem _ hx)
    obtain ⟨r, hr, h0⟩ := Ech.rest E v n
    have hvs := hs v List.mem_cons_self
    have hrs : Short n r := (Short.lin n).of_sum hvs (hr.within (Short.lin n) hS)
    have hup : ∀ x, Sp L x → Sp (v :: L) x := fun x hx => hx.sub fun y hy => List.mem_cons_of_mem _ hy
    by_cases hz : r = v0
    · subst hz
      rw [va_zero] at hr
      refine ⟨E, hE, hS, fun x => ⟨fun hx => hup x ((hI x).1 hx), fun hx => hx.mono fun y hy => ?_⟩, by rw [List.length_cons]; omega⟩
      rcases List.mem_cons.1 hy with rfl | hy
      · exact hr
      · exact (hI y).2 (Sp.mem hy)
    · refine ⟨r :: E, hE.more hrs h0 hz, fun e he => ?_, fun x => ⟨fun hx => hx.mono fun y hy => ?_, fun hx => hx.mono fun y hy => ?_⟩, by rw [List.length_cons, List.length_cons]; omega⟩
      · rcases List.mem_cons.1 he with rfl | he
        · exact hrs
        · exact hS e he
      · rcases List.mem_cons.1 hy with rfl | hy
        · exact (Sp.lin _).of_sum (Sp.mem List.mem_cons_self) (hup _ ((hI _).1 hr))
        · exact hup y ((hI y).1 (Sp.mem hy))
      · rcases List.mem_cons.1 hy with rfl | hy
        · exact (Sp.lin _).of_sum' (Sp.mem List.mem_cons_self) (hr.sub fun z hz => List.mem_cons_of_mem _ hz)
        · exact ((hI y).2 (Sp.mem hy)).sub fun z hz => List.mem_cons_of_mem _ hz

/-- One more that is spanned adds nothing; one that isn't, one. -/
theorem rk_in {n : Nat} {L : List Vc} {v : Vc} (h : Sp L v) : rk n (Sp (v :: L)) = rk n (Sp L) :=
  rk_congr fun x => ⟨fun hx => hx.mono fun y hy => by
    rcases List.mem_cons.1 hy with rfl | hy
    · exact h
    · exact Sp.mem hy, fun hx => hx.sub fun y hy => List.mem_cons_of_mem _ hy⟩
theorem rk_out {n : Nat} {L : List Vc} {v : Vc} (hs : ∀ x ∈ L, Short n x) (hv : Short n v) (h : ¬ Sp L v) : rk n (Sp (v :: L)) = rk n (Sp L) + 1 := by
  obtain ⟨E, hE, hS, hI, _⟩ := exists_ech L hs
  obtain ⟨r, hr, h0⟩ := Ech.rest E v n
  have hrs : Short n r := (Short.lin n).of_sum hv (hr.within (Short.lin n) hS)
  have hz : r ≠ v0 := by
    rintro rfl
    rw [va_zero] at hr
    exact h ((hI v).1 hr)
  have hI' : ∀ x, Sp (r :: E) x ↔ Sp (v :: L) x := fun x => ⟨fun hx => hx.mono fun y hy => by
      rcases List.mem_cons.1 hy with rfl | hy
      · exact (Sp.lin _).of_sum (Sp.mem List.mem_cons_self) (((hI _).1 hr).sub fun z hz => List.mem_cons_of_mem _ hz)
      · exact ((hI y).1 (Sp.mem hy)).sub fun z hz => List.mem_cons_of_mem _ hz,
    fun hx => hx.mono fun y hy => by
      rcases List.mem_cons.1 hy with rfl | hy
      · exact (Sp.lin _).of_sum' (Sp.mem List.mem_cons_self) (hr.sub fun z hz => List.mem_cons_of_mem _ hz)
      · exact ((hI y).2 (Sp.mem hy)).sub fun z hz => List.mem_cons_of_mem _ hz⟩
  rw [← rk_congr hI', ← rk_congr hI, rk_ech hE hS, rk_ech (hE.more hrs h0 hz) fun e he => by
    rcases List.mem_cons.1 he with rfl | he
    · exact hrs
    · exact hS e he]
  rfl

open Classical in
/-! ### Reduced rows: there is one list of them alone -/

/-- Rows by rising places; each leads with a 1, where all others have a 0. -/
structure Red (E : List Vc) : Prop where
  rise : E.Pairwise fun x y => ∀ i j, Lead x i → Lead y j → i < j
  one : ∀ e ∈ E, ∃ i, Lead e i ∧ e i = 1
  clear : E.Pairwise fun x y => ∀ i, (Lead x i → y i = 0) ∧ (Lead y i → x i = 0)

end La
end Go.Proofs.YtphdadibfeencaaGreat

/-
  Linear algebra over bytes, second part: combinations by their coefficients, matrices turned and multiplied, inverses. No program in this text.
-/
set_option maxRecDepth 100000
namespace Go.Proofs.YtphdadibfeencaaGreat
namespace La

/-- The first m rows of a matrix. -/
def rows (A : Nat → Vc) (m : Nat) : List Vc := (List.range m).map A

/-- The combination of the first k vectors by these coefficients. -/
def lc (cs : Nat → B) (A : Nat → Vc) (k : Nat) : Vc := fun j => sm (fun t => cs t * A t j) k

/-! ### Turned -/

/-! ### Products -/

end La
end Go.Proofs.YtphdadibfeencaaGreat

/-
  Linear algebra over bytes, third part: determinants by the first row (two is 0 here: no signs), and that one isn't 0 just where the rank is full. No program in this text.
-/
set_option maxRecDepth 100000
namespace Go.Proofs.YtphdadibfeencaaGreat
namespace La

/-- The sum over all ways to take one of a list: of it, and of what is left. -/
def P (f : Nat → List Nat → B) : List Nat → B
  | [] => 0
  | x :: xs => f x xs + P (fun y ys => f y (x :: ys)) xs

/-- The determinant of rows, at these columns. -/
def D : List Vc → List Nat → B
  | [], _ => 1
  | r :: rs, cols => P (fun x rest => r x * D rs rest) cols

end La
end Go.Proofs.YtphdadibfeencaaGreat

/-
  The document's answer for equations (wellspringref08), in the program: 'Known'.
-/
set_option maxRecDepth 100000
namespace Go.Proofs.YtphdadibfeencaaGreat
open Go.RowKit

namespace Ro
/-- How many bytes aren't 0. -/
def nz (l : List Nat) : Nat := l.countP fun x => x != 0
/-- Does the row tell this symbol? -/
def tells (i : Int) (r : Rw) : Bool := nz r.1 == 1 && leadI r.1 == i
end Ro

end Go.Proofs.YtphdadibfeencaaGreat

/-
  Rows of bytes as vectors: what the document's answers of layers 7 and 8 reckon, said of spans, ranks and determinants. No program in this text.
-/
set_option maxRecDepth 100000
namespace Go.Proofs.YtphdadibfeencaaGreat
open La

def Oct (l : List Nat) : Prop := ∀ z, z ∈ l → z < 256
/-- A byte, as an element of the field. -/
def bt (n : Nat) : B := ⟨n % 256, Nat.mod_lt _ (by decide)⟩
/-- Bytes, as a vector. -/
def fv (l : List Nat) : Vc := fun i => bt (nth l i)

theorem bt_val {n : Nat} (h : n < 256) : (bt n).val = n := Nat.mod_eq_of_lt h
theorem bt_inj {m n : Nat} (hm : m < 256) (hn : n < 256) (h : bt m = bt n) : m = n := by
  have := congrArg B.val h
  rwa [bt_val hm, bt_val hn] at this
theorem bt_ne {n : Nat} (h : n < 256) : bt n ≠ 0 ↔ n ≠ 0 := by
  constructor
  · intro h1 h2; subst h2; exact h1 rfl
  · intro h1 h2; exact h1 (bt_inj h (by decide) h2)
theorem bt_xor {m n : Nat} (hm : m < 256) (hn : n < 256) : bt (m ^^^ n) = bt m + bt n := B.ext (by
  rw [bt_val (Gf.xor_lt hm hn), val_add, bt_val hm, bt_val hn])
theorem bt_mul {m n : Nat} (hm : m < 256) (hn : n < 256) : bt (Gf.mul m n) = bt m * bt n := B.ext (by
  rw [bt_val (Gf.mul_lt hm n), val_mul, bt_val hm, bt_val hn])

theorem nth_out {l : List Nat} {i : Nat} (h : l.length ≤ i) : nth l i = 0 := by
  unfold nth; rw [List.getD_eq_getElem?_getD, List.getElem?_eq_none h]; rfl
theorem fv_short (l : List Nat) : Short l.length (fv l) := fun i hi => by show bt (nth l i) = 0; rw [nth_out hi]; rfl
theorem fv_short' {l : List Nat} {n : Nat} (h : l.length = n) : Short n (fv l) := h ▸ fv_short l
theorem fv_add {x y : List Nat} (hx : Oct x) (hy : Oct y) (hl : x.length = y.length) : fv (Gf.add x y) = va (fv x) (fv y) := funext fun i => by
  show bt (nth (Gf.add x y) i) = bt (nth x i) + bt (nth y i)
  by_cases hi : i < x.length
  · rw [nth_add x y i hi (by omega), bt_xor (nth_lt hx i) (nth_lt hy i)]
  · rw [nth_out (by rw [Gf.add_length _ _ hl]; omega), nth_out (by omega), nth_out (by omega)]; rfl
theorem fv_scale {c : Nat} {x : List Nat} (hc : c < 256) (hx : Oct x) : fv (Gf.scale c x) = vs (bt c) (fv x) := funext fun i => by
  show bt (nth (Gf.scale c x) i) = bt c * bt (nth x i)
  by_cases hi : i < x.length
  · rw [nth_scale c x i hi, bt_mul hc (nth_lt hx i)]
  · rw [nth_out (by rw [Gf.scale_length]; omega), nth_out (by omega)]; exact (bmul_zero _).symm
theorem fv_inj {x y : List Nat} (hx : Oct x) (hy : Oct y) (hl : x.length = y.length) (h : fv x = fv y) : x = y :=
  ext_nth hl fun j _ => bt_inj (nth_lt hx j) (nth_lt hy j) (congrFun h j)
theorem fv_lead {l : List Nat} (h : Oct l) {i : Nat} : Lead (fv l) i ↔ i < l.length ∧ lead l = i := by
  constructor
  · rintro ⟨h1, h2⟩
    have hi : i < l.length := by
      by_cases hi : i < l.length
      · exact hi
      · exact absurd (fv_short l i (by omega)) h1
    exact ⟨hi, lead_eq (fun j hj => bt_inj (nth_lt h j) (by decide) (h2 j hj)) hi ((bt_ne (nth_lt h i)).1 h1)⟩
  · rintro ⟨hi, rfl⟩
    exact ⟨(bt_ne (nth_lt h _)).2 (lead_ne l hi), fun j hj => by show bt (nth l j) = 0; rw [lead_zero l j hj]; rfl⟩
theorem fv_zero {l : List Nat} (h : Oct l) : fv l = v0 ↔ zeroB l = true := by
  constructor
  · intro e
    unfold zeroB
    rw [List.all_eq_true]
    intro x hx
    obtain ⟨i, hi, rfl⟩ := List.mem_iff_getElem.1 hx
    have := congrFun e i
    have h2 : bt (nth l i) = bt 0 := this
    have h3 := bt_inj (nth_lt h i) (by decide) h2
    rw [nth_eq l i hi] at h3
    simp [h3]
  · intro e
    unfold zeroB at e
    rw [List.all_eq_true] at e
    exact funext fun i => by
      show bt (nth l i) = 0
      by_cases hi : i < l.length
      · have := e _ (List.getElem_mem hi)
        rw [nth_eq l i hi, beq_iff_eq.1 this]; rfl
      · rw [nth_out (by omega)]; rfl

/-! ### Rows: vector and data, one behind the other -/

def jn (x : Rw) : List Nat := x.1 ++ x.2
def fj (x : Rw) : Vc := fv (jn x)
/-- The vector alone. -/
def f1 (x : Rw) : Vc := fv x.1

theorem Ro.Dim.oct {k t : Nat} {x : Rw} (h : Ro.Dim k t x) : Oct (jn x) := fun z hz => by
  rcases List.mem_append.1 hz with h1 | h1
  · exact h.2.2.1 z h1
  · exact h.2.2.2 z h1
theorem Ro.Dim.len {k t : Nat} {x : Rw} (h : Ro.Dim k t x) : (jn x).length = k + t := by unfold jn; rw [List.length_append, h.1, h.2.1]
theorem Ro.Dim.short1 {k t : Nat} {x : Rw} (h : Ro.Dim k t x) : Short k (f1 x) := fv_short' h.1
theorem fj_inj {k t : Nat} {x y : Rw} (hx : Ro.Dim k t x) (hy : Ro.Dim k t y) (h : fj x = fj y) : x = y := by
  have e := fv_inj hx.oct hy.oct (by rw [hx.len, hy.len]) h
  unfold jn at e
  obtain ⟨e1, e2⟩ := List.append_inj e (by rw [hx.1, hy.1])
  exact Prod.ext e1 e2
theorem f1_lead {k t : Nat} {x : Rw} (h : Ro.Dim k t x) (hl : lead x.1 < x.1.length) : Lead (f1 x) (lead x.1) := (fv_lead h.2.2.1).2 ⟨hl, rfl⟩
theorem jn_add {a b c d : List Nat} (h1 : a.length = c.length) : Gf.add (a ++ b) (c ++ d) = Gf.add a c ++ Gf.add b d := by
  unfold Gf.add; exact List.zipWith_append h1
theorem jn_scale (c : Nat) (a b : List Nat) : Gf.scale c (a ++ b) = Gf.scale c a ++ Gf.scale c b := by unfold Gf.scale; rw [List.map_append]
theorem fj_less {k t c : Nat} {x r : Rw} (hc : c < 256) (hx : Ro.Dim k t x) (hr : Ro.Dim k t r) : fj (Ro.less x c r) = va (vs (bt c) (fj r)) (fj x) := by
  obtain ⟨_, e⟩ := Ro.less_dim hc hx hr
  rw [e]
  show fv (Gf.add (Gf.scale c r.1) x.1 ++ Gf.add (Gf.scale c r.2) x.2) = _
  rw [← jn_add (by rw [Gf.scale_length, hr.1, hx.1]), ← jn_scale]
  show fv (Gf.add (Gf.scale c (jn r)) (jn x)) = _
  rw [fv_add (Ro.scale_lt256 hc _) hx.oct (by rw [Gf.scale_length]; exact (hr.len).trans hx.len.symm), fv_scale hc hr.oct]
  rfl
theorem f1_less {k t c : Nat} {x r : Rw} (hc : c < 256) (hx : Ro.Dim k t x) (hr : Ro.Dim k t r) : f1 (Ro.less x c r) = va (vs (bt c) (f1 r)) (f1 x) := by
  obtain ⟨_, e⟩ := Ro.less_dim hc hx hr
  rw [e]
  show fv (Gf.add (Gf.scale c r.1) x.1) = _
  rw [fv_add (Ro.scale_lt256 hc _) hx.2.2.1 (by rw [Gf.scale_length, hr.1, hx.1]), fv_scale hc hr.2.2.1]
  rfl
theorem f1_norm {k t : Nat} {x : Rw} (hx : Ro.Dim k t x) : f1 (Ro.norm x) = vs (bt (normC x.1)) (f1 x) := fv_scale (normC_lt _) hx.2.2.1

theorem va_mid (s a b : Vc) : va (va (va s a) b) s = va a b := funext fun i => by
  show s i + a i + b i + s i = a i + b i
  rw [badd_comm _ (s i), badd_assoc (s i), badd_cancel]

/-- What is left differs from the row by what the others span. -/
theorem rest_span {k t : Nat} {L : List Rw} (hD : Ro.Dims k t L) {x : Rw} (hx : Ro.Dim k t x) : Sp (L.map fj) (va (fj x) (fj (Ro.rest L x))) ∧ Sp (L.map f1) (va (f1 x) (f1 (Ro.rest L x))) := by
  induction L generalizing x with
  | nil => exact ⟨by show Sp _ (va (fj x) (fj x)); rw [va_self]; exact Sp.zero, by show Sp _ (va (f1 x) (f1 x)); rw [va_self]; exact Sp.zero⟩
  | cons r L ih =>
    have hr := hD r List.mem_cons_self
    have hc : nth x.1 (lead r.1) < 256 := nth_lt hx.2.2.1 _
    obtain ⟨h1, h2⟩ := ih (fun y hy => hD y (List.mem_cons_of_mem _ hy)) (Ro.step_dim hx hr)
    show Sp _ (va (fj x) (fj (Ro.rest L (Ro.step x r)))) ∧ Sp _ (va (f1 x) (f1 (Ro.rest L (Ro.step x r))))
    have up : ∀ {f : Rw → Vc} {v : Vc}, Sp (L.map f) v → Sp ((r :: L).map f) v := fun h => h.sub fun y hy => by rw [List.map_cons]; exact List.mem_cons_of_mem _ hy
    constructor
    · have e := fj_less hc hx hr
      rw [← va_mid (vs (bt (nth x.1 (lead r.1))) (fj r)) (fj x), ← e]
      exact (up h1).add ((Sp.mem (by simp)).smul _)
    · have e := f1_less hc hx hr
      rw [← va_mid (vs (bt (nth x.1 (lead r.1))) (f1 r)) (f1 x), ← e]
      exact (up h2).add ((Sp.mem (by simp)).smul _)

end Go.Proofs.YtphdadibfeencaaGreat

/-
  What the document's answers of layers 7 and 8 reckon, said of spans and ranks: rows put in, and cleared of each other. No program in this text.
-/
set_option maxRecDepth 100000
namespace Go.Proofs.YtphdadibfeencaaGreat
open La

theorem sp_perm {L M : List Vc} (h : ∀ v, v ∈ L ↔ v ∈ M) {x : Vc} : Sp L x ↔ Sp M x := ⟨fun k => k.sub fun v hv => (h v).1 hv, fun k => k.sub fun v hv => (h v).2 hv⟩
theorem put_mem_iff (L : List Rw) (y r : Rw) : r ∈ Ro.put L y ↔ r ∈ y :: L := by
  unfold Ro.put
  rw [List.mem_append, List.mem_cons, List.mem_cons]
  constructor
  · rintro (h | h | h)
    · exact .inr (List.mem_of_mem_take h)
    · exact .inl h
    · exact .inr (List.mem_of_mem_drop h)
  · rintro (h | h)
    · exact .inr (.inl h)
    · rw [← List.take_append_drop (Ro.ahead L y) L] at h
      rcases List.mem_append.1 h with h | h
      · exact .inl h
      · exact .inr (.inr h)
theorem put_map (f : Rw → Vc) (L : List Rw) (y : Rw) {v : Vc} : Sp ((Ro.put L y).map f) v ↔ Sp (f y :: L.map f) v :=
  sp_perm fun u => by
    rw [← List.map_cons, List.mem_map, List.mem_map]
    constructor
    · rintro ⟨r, hr, e⟩; exact ⟨r, (put_mem_iff L y r).1 hr, e⟩
    · rintro ⟨r, hr, e⟩; exact ⟨r, (put_mem_iff L y r).2 hr, e⟩

/-- One of a span with a multiple of what differs from another by the others: the other's span. -/
theorem sp_replace {L : List Vc} {x r : Vc} {c : B} (hc : c ≠ 0) (h : Sp L (va x r)) {v : Vc} : Sp (vs c r :: L) v ↔ Sp (x :: L) v := by
  have up : ∀ {a v : Vc}, Sp L v → Sp (a :: L) v := fun h => h.sub fun y hy => List.mem_cons_of_mem _ hy
  constructor
  · intro k
    refine k.mono fun y hy => ?_
    rcases List.mem_cons.1 hy with rfl | hy
    · exact ((Sp.lin _).of_sum (Sp.mem List.mem_cons_self) (up h)).smul c
    · exact up (Sp.mem hy)
  · intro k
    refine k.mono fun y hy => ?_
    rcases List.mem_cons.1 hy with rfl | hy
    · have hr : Sp (vs c r :: L) r := by
        have := (Sp.mem (List.mem_cons_self (a := vs c r) (l := L))).smul (iv c)
        rwa [vs_vs, iv_mul hc, one_vs] at this
      exact (Sp.lin _).of_sum' hr (up h)
    · exact up (Sp.mem hy)

theorem normC_bt {x : List Nat} : bt (normC x) ≠ 0 := (bt_ne (normC_lt x)).2 normC_ne

/-- A row more: of the vectors' span, always. -/
theorem insert_span1 {k t : Nat} {L : List Rw} (hD : Ro.Dims k t L) {x : Rw} (hx : Ro.Dim k t x) {v : Vc} : Sp ((Ro.insert L x).map f1) v ↔ Sp (f1 x :: L.map f1) v := by
  have hr := Ro.rest_dim hD hx
  have hsp := (rest_span hD hx).2
  unfold Ro.insert
  split
  · rw [put_map, f1_norm hr]
    exact sp_replace normC_bt hsp
  · rename_i hl
    have hz : f1 (Ro.rest L x) = v0 := (fv_zero hr.2.2.1).2 (zeroB_lead.2 fun h => hl (by
      rw [Ro.norm_lead hr]
      have : (Ro.norm (Ro.rest L x)).1.length = (Ro.rest L x).1.length := by show (Gf.scale _ _).length = _; rw [Gf.scale_length]
      rw [this]; exact h))
    rw [hz, va_zero] at hsp
    exact ⟨fun h => h.sub fun y hy => List.mem_cons_of_mem _ hy, fun h => h.mono fun y hy => by
      rcases List.mem_cons.1 hy with rfl | hy
      · exact hsp
      · exact Sp.mem hy⟩
theorem all_snoc (L : List Rw) (x : Rw) : Ro.all (L ++ [x]) = Ro.insert (Ro.all L) x := by unfold Ro.all; rw [List.foldl_append]; rfl
theorem all_dims {k t : Nat} {L : List Rw} (hD : Ro.Dims k t L) : Ro.Up k t (Ro.all L) := by
  have h := Ro.all_up hD L.length (Nat.le_refl _)
  rwa [List.take_length] at h
theorem sp_snoc {f : Rw → Vc} {L : List Rw} {x : Rw} {v : Vc} : Sp ((L ++ [x]).map f) v ↔ Sp (f x :: L.map f) v := sp_perm fun u => by
  rw [List.map_append, List.mem_append, List.mem_cons]; simp [or_comm]
theorem sp_cons_congr {L M : List Vc} (h : ∀ v, Sp L v ↔ Sp M v) {x v : Vc} : Sp (x :: L) v ↔ Sp (x :: M) v := by
  rw [Sp.cons, Sp.cons]
  constructor <;> rintro ⟨c, w, hw, e⟩
  · exact ⟨c, w, (h w).1 hw, e⟩
  · exact ⟨c, w, (h w).2 hw, e⟩
/-- All put in: the vectors' span. -/
theorem all_span1 {k t : Nat} : ∀ (n : Nat) {L : List Rw}, L.length = n → Ro.Dims k t L → ∀ {v : Vc}, Sp ((Ro.all L).map f1) v ↔ Sp (L.map f1) v
  | 0, L, hn, _, v => by rw [List.length_eq_zero_iff.1 hn]; exact Iff.rfl
  | n + 1, L, hn, hD, v => by
    have hne : L ≠ [] := by intro e; rw [e] at hn; simp at hn
    obtain ⟨M, x, rfl⟩ : ∃ M x, L = M ++ [x] := ⟨L.dropLast, L.getLast hne, (List.dropLast_concat_getLast hne).symm⟩
    have hM : Ro.Dims k t M := fun r hr => hD r (List.mem_append_left _ hr)
    have hx : Ro.Dim k t x := hD x (by simp)
    rw [all_snoc, insert_span1 (all_dims hM).dims hx, sp_snoc]
    exact sp_cons_congr fun v => all_span1 n (by simpa using hn) hM

/-! ### Ranks -/

theorem up_ech1 {k t : Nat} {L : List Rw} (h : Ro.Up k t L) : Ech (L.map f1) := by
  refine ⟨fun e he => ?_, ?_⟩
  · obtain ⟨r, hr, rfl⟩ := List.mem_map.1 he
    exact ⟨_, f1_lead (h.dims r hr) (h.leads r hr)⟩
  · rw [List.pairwise_map]
    refine h.rise.imp_of_mem fun {a b} ha hb hab i hi hj => ?_
    have h1 := hi.unique (f1_lead (h.dims a ha) (h.leads a ha))
    have h2 := hj.unique (f1_lead (h.dims b hb) (h.leads b hb))
    omega
theorem up_rank {k t : Nat} {L : List Rw} (h : Ro.Up k t L) : rk k (Sp (L.map f1)) = L.length := by
  rw [rk_ech (up_ech1 h) fun e he => by
    obtain ⟨r, hr, rfl⟩ := List.mem_map.1 he
    exact (h.dims r hr).short1, List.length_map]
/-- How many rows there are, all put in, is the vectors' rank. -/
theorem all_rank {k t : Nat} {L : List Rw} (hD : Ro.Dims k t L) : (Ro.all L).length = rk k (Sp (L.map f1)) := by
  rw [← up_rank (all_dims hD)]
  exact rk_congr fun v => all_span1 L.length rfl hD

/-- The rank of rows of bytes. -/
noncomputable def rankL (k : Nat) (ll : List (List Nat)) : Nat := rk k (Sp (ll.map fv))
theorem bare_dims {k : Nat} {ll : List (List Nat)} (hO : ∀ r ∈ ll, Oct r) (hk : ∀ r ∈ ll, r.length = k) : Ro.Dims k 0 (Ro.bare ll) := fun x hx => by
  obtain ⟨r, hr, rfl⟩ := List.mem_map.1 hx
  exact ⟨hk r hr, rfl, hO r hr, fun z hz => by cases hz⟩
theorem bare_map (ll : List (List Nat)) : (Ro.bare ll).map f1 = ll.map fv := by unfold Ro.bare; rw [List.map_map]; rfl
theorem refrank_eq {k : Nat} {ll : List (List Nat)} (hO : ∀ r ∈ ll, Oct r) (hk : ∀ r ∈ ll, r.length = k) : (Ro.all (Ro.bare ll)).length = rankL k ll := by
  rw [all_rank (bare_dims hO hk), bare_map]; rfl

/-! ### Rows cleared of each other -/

/-- By rising places, led by a 1, where all others have a 0. -/
structure RedR (k t : Nat) (E : List Rw) : Prop where
  up : Ro.Up k t E
  clear : ∀ i j, i < E.length → j < E.length → i ≠ j → nth (rwAt E i).1 (lead (rwAt E j).1) = 0

end Go.Proofs.YtphdadibfeencaaGreat

/-
  The document's rows of equations (layer 8) are the reduced rows of their span. No program in this text.
-/
set_option maxRecDepth 100000
namespace Go.Proofs.YtphdadibfeencaaGreat
open La

/-- What is left has a 0 where reduced rows lead. -/
theorem rest_clear {k t : Nat} {E : List Rw} (h : RedR k t E) {x : Rw} (hx : Ro.Dim k t x) {i : Nat} (hi : i < E.length) : nth (Ro.rest E x).1 (lead (rwAt E i).1) = 0 := by
  have := Ro.rest_zero h.up hx E.length (Nat.le_refl _) i hi
  rwa [List.take_length] at this
end Go.Proofs.YtphdadibfeencaaGreat
