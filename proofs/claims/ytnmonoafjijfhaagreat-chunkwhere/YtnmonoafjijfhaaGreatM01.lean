/-
  A region whose order is open, by what each of its operations leaves: if each operation, wherever it comes up, leaves a value that meets its own sentence, and a world in which the sentences still hold, then whatever order is picked all sentences hold at the end.
-/
import Derived.Orders
import Derived.WalkKit
namespace Go.Proofs.YtnmonoafjijfhaaGreat.Rg
open Go Go.RowKit

/-- The sentence of an operation: the value that it leaves, or what is so of it. -/
abbrev Spec := Value ⊕ (Value → World → Prop)
def Spec.ok : Spec → Value → World → Prop
  | .inl x, v, _ => v = x
  | .inr p, v, w => p v w

def cnt : Nat → (Nat → Bool) → Nat
  | 0, _ => 0
  | n + 1, f => cnt n f + if f n then 1 else 0
theorem cnt_same : ∀ (n : Nat) (f g : Nat → Bool), (∀ j, j < n → f j = g j) → cnt n f = cnt n g
  | 0, _, _, _ => rfl
  | n + 1, f, g, h => by simp only [cnt]; rw [cnt_same n f g (fun j hj => h j (by omega)), h n (by omega)]
theorem cnt_step : ∀ (n : Nat) (f g : Nat → Bool) (i : Nat), i < n → f i = true → g i = false → (∀ j, j ≠ i → f j = g j) → cnt n f = cnt n g + 1
  | 0, _, _, _, h, _, _, _ => by omega
  | n + 1, f, g, i, h, hf, hg, he => by
    simp only [cnt]
    by_cases hi : i = n
    · subst hi
      rw [cnt_same i f g (fun j hj => he j (by omega)), hf, hg]
      simp
    · rw [cnt_step n f g i (by omega) hf hg he, he n (by omega)]
      omega
theorem cnt_zero : ∀ (n : Nat) (f : Nat → Bool), cnt n f = 0 → ∀ j, j < n → f j = false
  | 0, _, _, _, h => by omega
  | n + 1, f, h, j, hj => by
    simp only [cnt] at h
    by_cases hjn : j = n
    · subst hjn
      cases hf : f j with
      | false => rfl
      | true => rw [hf] at h; simp at h
    · exact cnt_zero n f (by omega) j (by omega)
theorem cnt_all : ∀ (n : Nat) (f : Nat → Bool), (∀ j, j < n → f j = true) → cnt n f = n
  | 0, _, _ => rfl
  | n + 1, f, h => by simp only [cnt]; rw [cnt_all n f (fun j hj => h j (by omega)), h n (by omega)]; simp

/-- Which operation writes a slot. -/
def writer (ops : Array Oper) (t : Tmp) : Option Nat := (List.range ops.size).find? fun j => (ops[j]?).any fun o => o.dst == some t
/-- What is so of a slot where it is looked at. -/
def slotS (ops : Array Oper) (specs : List Spec) (a0 : Act) (t : Tmp) : Spec :=
  match writer ops t with
  | some j => (specs[j]?).getD (.inl undef)
  | none => .inl (a0.tmps.getD t undef)
/-- What is looked at in a region is there when it is looked at; each slot is written once. -/
def sound (ops : Array Oper) (n : Nat) : Bool :=
  (List.range ops.size).all fun i => match ops[i]? with
    | none => true
    | some o =>
      (o.after.all fun e => !Region.binds .any e || decide (e.on < i)) &&
      ((o.looksAt ops).all fun t => match writer ops t with | none => true | some j => o.after.any fun e => Region.binds .any e && e.on == j) &&
      (match o.dst with | none => true | some d => decide (d < n) && writer ops d == some i)

section
variable {P : Program} {ops : Array Oper} {specs : List Spec} {a0 : Act} {C : World → Prop} {E : World → World → Prop}

theorem writer_some {t : Tmp} {j : Nat} (h : writer ops t = some j) : ∃ o, ops[j]? = some o ∧ o.dst = some t := by
  unfold writer at h
  have := List.find?_some h
  cases ho : ops[j]? with
  | none => simp [ho] at this
  | some o => simp [ho] at this; exact ⟨o, rfl, this⟩
theorem writer_none {t : Tmp} (h : writer ops t = none) : ∀ (j : Nat) (o : Oper), ops[j]? = some o → o.dst ≠ some t := by
  intro j o ho hd
  unfold writer at h
  rw [List.find?_eq_none] at h
  have := h j (by simp; exact (Array.getElem?_eq_some_iff.1 ho).1)
  simp [ho, hd] at this

theorem sound_at {n i : Nat} {o : Oper} (h : sound ops n = true) (ho : ops[i]? = some o) :
    (∀ e ∈ o.after, Region.binds .any e = true → e.on < i) ∧
    (∀ t ∈ o.looksAt ops, ∀ j, writer ops t = some j → ∃ e ∈ o.after, Region.binds .any e = true ∧ e.on = j) ∧
    (∀ d, o.dst = some d → d < n ∧ writer ops d = some i) := by
  unfold sound at h
  rw [List.all_eq_true] at h
  have h1 := h i (by simp; exact (Array.getElem?_eq_some_iff.1 ho).1)
  rw [ho] at h1
  simp only [Bool.and_eq_true] at h1
  obtain ⟨⟨ha, hb⟩, hc⟩ := h1
  refine ⟨fun e he hbd => ?_, fun t ht j hj => ?_, fun d hd => ?_⟩
  · have := Array.all_eq_true_iff_forall_mem.1 ha e he
    simpa [hbd] using this
  · have := List.all_eq_true.1 hb t ht
    rw [hj] at this
    obtain ⟨e, he, h2⟩ := Array.any_eq_true'.1 this
    simp only [Bool.and_eq_true, beq_iff_eq] at h2
    exact ⟨e, he, h2.1, h2.2⟩
  · rw [hd] at hc
    simpa using hc

/-- What is so at each time. -/
structure Inv (ops : Array Oper) (specs : List Spec) (a0 : Act) (C : World → Prop) (listed : Array Bool) (a : Act) (w : World) : Prop where
  cls : C w
  defers : a.defers = a0.defers
  size : a.tmps.size = a0.tmps.size
  slot : ∀ t, (∀ j, writer ops t = some j → listed.getD j false = false) → a.tmps[t]? = a0.tmps[t]?
  done : ∀ t j, writer ops t = some j → listed.getD j false = true → ∃ v, a.tmps[t]? = some v ∧ ((specs[j]?).getD (.inl undef)).ok v w

/-- What one operation owes: wherever it comes up, if what it looks at is as its sentences say, it leaves a value of its own sentence. -/
def GoodOp (P : Program) (ops : Array Oper) (specs : List Spec) (a0 : Act) (C : World → Prop) (E : World → World → Prop) (o : Oper) (s : Spec) : Prop :=
  ∀ (Q : Exit → Act → World → Prop) (a : Act) (w : World), C w → (∀ t ∈ o.looksAt ops, (slotS ops specs a0 t).ok (a.eval (.tmp t)) w) →
    (Region.wanted o (yielded ops a.tmps) = true → o.wp P a w (fun a' w' => ∃ v, a' = a.put o.dst v ∧ s.ok v w' ∧ E w w' ∧ C w') Q) ∧
    (Region.wanted o (yielded ops a.tmps) = false → s.ok undef w)

theorem Inv.sees {listed : Array Bool} {a : Act} {w : World} {n i : Nat} {o : Oper} (h : Inv ops specs a0 C listed a w) (hs : sound ops n = true) (ho : ops[i]? = some o) (hr : i ∈ Region.ready .any ops listed) :
    ∀ t ∈ o.looksAt ops, (slotS ops specs a0 t).ok (a.eval (.tmp t)) w := by
  intro t ht
  unfold slotS
  cases hw : writer ops t with
  | none =>
    simp only [Spec.ok, Act.eval]
    have := h.slot t (by simp [hw])
    simp [Array.getD_eq_getD_getElem?, this]
  | some j =>
    obtain ⟨e, he, hb, hj⟩ := (sound_at hs ho).2.1 t ht j hw
    obtain ⟨_, o', ho', hall⟩ := mem_ready.1 hr
    rw [ho] at ho'
    simp at ho'
    subst ho'
    have hl := hall e he hb
    rw [hj] at hl
    obtain ⟨v, hv, hk⟩ := h.done t j hw hl
    simp only [Act.eval, Array.getD_eq_getD_getElem?, hv]
    exact hk

theorem put_size (a : Act) (d : Option Tmp) (v : Value) : (a.put d v).tmps.size = a.tmps.size := by cases d <;> simp [Act.put]
theorem put_other (a : Act) {d : Option Tmp} (v : Value) {t : Tmp} (h : d ≠ some t) : (a.put d v).tmps[t]? = a.tmps[t]? := by
  cases d with
  | none => rfl
  | some d => simp only [Act.put]; exact Array.getElem?_setIfInBounds_ne (fun e => h (by rw [e]))
theorem put_same (a : Act) {d : Tmp} (v : Value) (h : d < a.tmps.size) : (a.put (some d) v).tmps[d]? = some v := by simp [Act.put, h]
theorem put_defers (a : Act) (d : Option Tmp) (v : Value) : (a.put d v).defers = a.defers := by cases d <;> rfl

theorem Inv.step {listed : Array Bool} {a : Act} {w w' : World} {i : Nat} {o : Oper} {v : Value} (h : Inv ops specs a0 C listed a w) (hs : sound ops a0.tmps.size = true) (ho : ops[i]? = some o) (hi : i < listed.size)
    (hst : ∀ (j : Nat) (v : Value) (w w' : World), ((specs[j]?).getD (.inl undef)).ok v w → E w w' → ((specs[j]?).getD (.inl undef)).ok v w') (hE : E w w') (hC : C w') (hv : ((specs[i]?).getD (.inl undef)).ok v w') :
    Inv ops specs a0 C (listed.setIfInBounds i true) (a.put o.dst v) w' := by
  have hsd := (sound_at hs ho).2.2
  refine ⟨hC, by rw [put_defers]; exact h.defers, by rw [put_size]; exact h.size, fun t ht => ?_, fun t j hj hl => ?_⟩
  · have hne : o.dst ≠ some t := fun hd => by
      have := ht i (hsd t hd).2
      simp [hi] at this
    rw [put_other a v hne]
    refine h.slot t fun j hj => ?_
    have := ht j hj
    by_cases hij : i = j
    · subst hij
      simp [hi] at this
    · rwa [getD_set_ne false hij] at this
  · by_cases hij : j = i
    · subst hij
      obtain ⟨o', ho', hd⟩ := writer_some hj
      rw [ho] at ho'
      simp at ho'
      subst ho'
      rw [hd]
      exact ⟨v, put_same a v (by rw [h.size]; exact (hsd t hd).1), hv⟩
    · have hne : o.dst ≠ some t := fun hd => by
        have := (hsd t hd).2
        rw [hj] at this
        simp at this
        exact hij this
      rw [put_other a v hne]
      rw [getD_set_ne false (Ne.symm hij)] at hl
      obtain ⟨u, hu, hk⟩ := h.done t j hj hl
      exact ⟨u, hu, hst j u w w' hk hE⟩

theorem all_listed {listed : Array Bool} {n : Nat} (hs : sound ops n = true) (hr : Region.ready .any ops listed = []) (hsz : listed.size = ops.size) : ∀ j, j < ops.size → listed.getD j false = true := by
  intro j
  induction j using Nat.strongRecOn with
  | _ j ih =>
    intro hj
    cases hl : listed.getD j false with
    | true => rfl
    | false =>
      have ho : ops[j]? = some ops[j] := Array.getElem?_eq_getElem hj
      have : j ∈ Region.ready .any ops listed := by
        rw [mem_ready]
        refine ⟨?_, ops[j], ho, fun e he hb => ?_⟩
        · have hj' : j < listed.size := by omega
          simp [hj'] at hl ⊢
          exact hl
        · have := (sound_at hs ho).1 e he hb
          exact ih e.on this (by omega)
      rw [hr] at this
      cases this

theorem rows_any {Q : Exit → Act → World → Prop} (hs : sound ops a0.tmps.size = true)
    (hst : ∀ (j : Nat) (v : Value) (w w' : World), ((specs[j]?).getD (.inl undef)).ok v w → E w w' → ((specs[j]?).getD (.inl undef)).ok v w') (hrefl : ∀ w, E w w)
    (hG : ∀ (i : Nat) (o : Oper), ops[i]? = some o → GoodOp P ops specs a0 C E o ((specs[i]?).getD (.inl undef)))
    (hF : ∀ (listed : Array Bool) (a : Act) (w : World), Inv ops specs a0 C listed a w → (∀ j, j < ops.size → listed.getD j false = true) → Q .normal a w) :
    ∀ (fuel : Nat) (listed : Array Bool) (a : Act) (w : World), Inv ops specs a0 C listed a w → listed.size = ops.size → cnt ops.size (fun j => !listed.getD j true) = fuel → wpAny P .any ops Q fuel listed a w
  | 0, listed, a, w, h, hsz, hc => by
    have hall : ∀ j, j < ops.size → listed.getD j false = true := fun j hj => by
      have := cnt_zero _ _ hc j hj
      have hj' : j < listed.size := by omega
      simp [hj'] at this ⊢
      exact this
    refine ⟨?_, hF listed a w h hall⟩
    cases hr : Region.ready .any ops listed with
    | nil => rfl
    | cons x xs =>
      have hx : x ∈ Region.ready .any ops listed := by rw [hr]; simp
      obtain ⟨h0, o, ho, _⟩ := mem_ready.1 hx
      have hx' : x < ops.size := (Array.getElem?_eq_some_iff.1 ho).1
      have h1 := hall x hx'
      have hx2 : x < listed.size := by omega
      simp [hx2] at h0 h1
      rw [h0] at h1
      cases h1
  | fuel + 1, listed, a, w, h, hsz, hc => by
    refine ⟨fun hr => hF listed a w h (all_listed hs hr hsz), fun i hi => ?_⟩
    obtain ⟨h0, o, ho, _⟩ := mem_ready.1 hi
    have hi' : i < ops.size := (Array.getElem?_eq_some_iff.1 ho).1
    have hi2 : i < listed.size := by omega
    have hnext : ∀ (v : Value) (w' : World), ((specs[i]?).getD (.inl undef)).ok v w' → E w w' → C w' → wpAny P .any ops Q fuel (listed.setIfInBounds i true) (a.put o.dst v) w' := by
      intro v w' hv hE hC
      refine rows_any hs hst hrefl hG hF fuel _ _ _ (h.step hs ho hi2 hst hE hC hv) (by simp; exact hsz) ?_
      have hstep := cnt_step ops.size (fun j => !listed.getD j true) (fun j => !(listed.setIfInBounds i true).getD j true) i hi' (by simp [h0]) (by simp [hi2]) (fun j hj => by rw [getD_set_ne true (Ne.symm hj)])
      omega
    have hg := hG i o ho Q a w h.cls (h.sees hs ho hi)
    unfold wpOp
    simp only [ho]
    split
    · rename_i hw
      refine .inl (Oper.wp_mono (fun a' w' hk => ?_) (hg.1 hw))
      obtain ⟨v, rfl, hv, hE, hC⟩ := hk
      exact hnext v w' hv hE hC
    · rename_i hw
      exact hnext undef w (hg.2 (by simpa using hw)) (hrefl w) h.cls

/-- All that the operations leave, one behind the other. -/
def later (w : World) (K : Act → Prop) : List Oper → List Spec → Act → Prop
  | [], _, a => K a
  | _ :: _, [], _ => False
  | o :: os, s :: ss, a =>
    match o.dst, s with
    | none, _ => later w K os ss a
    | some d, .inl x => later w K os ss (a.put (some d) x)
    | some d, .inr p => ∀ v, p v w → later w K os ss (a.put (some d) v)

/-- The frame with the values of f in the slots that are written. -/
def fill (f : Tmp → Value) : List Oper → Act → Act
  | [], a => a
  | o :: os, a => fill f os (match o.dst with | none => a | some d => a.put (some d) (f d))

theorem later_fill {w : World} {K : Act → Prop} (f : Tmp → Value) : ∀ (os : List Oper) (ss : List Spec) (a : Act), later w K os ss a →
    (∀ (j : Nat) (o : Oper) (d : Tmp) (s : Spec), os[j]? = some o → o.dst = some d → ss[j]? = some s → s.ok (f d) w) → K (fill f os a)
  | [], _, _, h, _ => h
  | _ :: _, [], _, h, _ => h.elim
  | o :: os, s :: ss, a, h, hk => by
    have hrest : ∀ (j : Nat) (o : Oper) (d : Tmp) (s : Spec), os[j]? = some o → o.dst = some d → ss[j]? = some s → s.ok (f d) w := fun j o d s h1 h2 h3 => hk (j + 1) o d s (by simpa using h1) h2 (by simpa using h3)
    simp only [fill]
    cases hd : o.dst with
    | none =>
      simp only [later, hd] at h
      exact later_fill f os ss a h hrest
    | some d =>
      have h0 := hk 0 o d s rfl hd rfl
      cases s with
      | inl x =>
        simp only [later, hd] at h
        simp only [Spec.ok] at h0
        show K (fill f os (a.put (some d) (f d)))
        rw [h0]
        exact later_fill f os ss _ h hrest
      | inr p =>
        simp only [later, hd] at h
        exact later_fill f os ss _ (h _ h0) hrest

theorem fill_size (f : Tmp → Value) : ∀ (os : List Oper) (a : Act), (fill f os a).tmps.size = a.tmps.size ∧ (fill f os a).defers = a.defers
  | [], _ => ⟨rfl, rfl⟩
  | o :: os, a => by
    have h := fill_size f os (match o.dst with | none => a | some d => a.put (some d) (f d))
    simp only [fill]
    refine ⟨h.1.trans ?_, h.2.trans ?_⟩ <;> cases o.dst <;> simp [Act.put]
theorem fill_other (f : Tmp → Value) : ∀ (os : List Oper) (a : Act) (t : Tmp), (∀ o ∈ os, o.dst ≠ some t) → (fill f os a).tmps[t]? = a.tmps[t]?
  | [], _, _, _ => rfl
  | o :: os, a, t, h => by
    simp only [fill]
    rw [fill_other f os _ t (fun o ho => h o (List.mem_cons_of_mem _ ho))]
    have := h o List.mem_cons_self
    cases hd : o.dst with
    | none => rfl
    | some d => exact put_other a (f d) (by rw [← hd]; exact this)
theorem fill_same (f : Tmp → Value) : ∀ (os : List Oper) (a : Act) (t : Tmp), t < a.tmps.size → (∃ o ∈ os, o.dst = some t) → (fill f os a).tmps[t]? = some (f t)
  | [], _, _, _, ⟨_, h, _⟩ => by cases h
  | o :: os, a, t, hlt, h => by
    simp only [fill]
    by_cases hex : ∃ o ∈ os, o.dst = some t
    · refine fill_same f os _ t ?_ hex
      cases o.dst <;> simp [Act.put, hlt]
    · rw [fill_other f os _ t (fun o ho hd => hex ⟨o, ho, hd⟩)]
      obtain ⟨o', ho', hd⟩ := h
      rcases List.mem_cons.1 ho' with rfl | hmem
      · rw [hd]; exact put_same a (f t) hlt
      · exact absurd ⟨o', hmem, hd⟩ hex

theorem act_ext {a b : Act} (h1 : a.defers = b.defers) (h2 : a.tmps.size = b.tmps.size) (h3 : ∀ t, t < a.tmps.size → a.tmps[t]? = b.tmps[t]?) : a = b := by
  cases a with
  | mk ta da =>
    cases b with
    | mk tb db =>
      simp only at h1 h2 h3
      subst h1
      have : ta = tb := Array.ext h2 fun i hi hi' => by
        have := h3 i hi
        rw [Array.getElem?_eq_getElem hi, Array.getElem?_eq_getElem hi'] at this
        simpa using this
      rw [this]

/-- Each operation owes its own. -/
def Goods (P : Program) (ops : Array Oper) (specs : List Spec) (a0 : Act) (C : World → Prop) (E : World → World → Prop) : List Oper → List Spec → Prop
  | [], [] => True
  | o :: os, s :: ss => GoodOp P ops specs a0 C E o s ∧ Goods P ops specs a0 C E os ss
  | _, _ => False
theorem goods_nil : Goods P ops specs a0 C E [] [] := trivial
theorem goods_cons {o : Oper} {os : List Oper} {s : Spec} {ss : List Spec} (h : GoodOp P ops specs a0 C E o s) (h2 : Goods P ops specs a0 C E os ss) : Goods P ops specs a0 C E (o :: os) (s :: ss) := ⟨h, h2⟩
theorem goods_at : ∀ (os : List Oper) (ss : List Spec), Goods P ops specs a0 C E os ss → ∀ (i : Nat) (o : Oper), os[i]? = some o → ∃ s, ss[i]? = some s ∧ GoodOp P ops specs a0 C E o s
  | [], _, _, i, o, h => by simp at h
  | _ :: _, [], h, _, _, _ => h.elim
  | o :: os, s :: ss, h, 0, o', ho => by simp at ho; subst ho; exact ⟨s, rfl, h.1⟩
  | o :: os, s :: ss, h, i + 1, o', ho => by
    obtain ⟨s', h1, h2⟩ := goods_at os ss h.2 i o' (by simpa using ho)
    exact ⟨s', by simpa using h1, h2⟩

/-- A SENTENCE STANDS THROUGH LATER WORLDS. -/
def Stands (E : World → World → Prop) : List Spec → Prop
  | [] => True
  | .inl _ :: r => Stands E r
  | .inr p :: r => (∀ v w w', p v w → E w w' → p v w') ∧ Stands E r
theorem stands_at : ∀ (ss : List Spec), Stands E ss → ∀ (j : Nat) (v : Value) (w w' : World), ((ss[j]?).getD (.inl undef)).ok v w → E w w' → ((ss[j]?).getD (.inl undef)).ok v w'
  | [], _, j, v, w, w', h, _ => by simpa [Spec.ok] using h
  | .inl x :: r, hs, 0, v, w, w', h, _ => by simpa [Spec.ok] using h
  | .inr p :: r, hs, 0, v, w, w', h, hE => by simpa [Spec.ok] using hs.1 v w w' (by simpa [Spec.ok] using h) hE
  | .inl x :: r, hs, j + 1, v, w, w', h, hE => by
    have := stands_at r hs j v w w' (by simpa using h) hE
    simpa using this
  | .inr p :: r, hs, j + 1, v, w, w', h, hE => by
    have := stands_at r hs.2 j v w w' (by simpa using h) hE
    simpa using this

/-- **A REGION WHOSE ORDER IS OPEN, BY THE SENTENCES OF ITS OPERATIONS.** -/
theorem wp_rows {id : Nat} {Q : Exit → Act → World → Prop} {w : World} {l : List Oper} (specs : List Spec) (C : World → Prop) (E : World → World → Prop) (n : Nat) (hm : P.follows .mixedOrders = true)
    (hn : a0.tmps.size = n) (hs : sound l.toArray n = true) (hst : Stands E specs) (hrefl : ∀ w, E w w) (hC : C w.drew)
    (hG : Goods P l.toArray specs a0 C E l specs) (hF : ∀ w', C w' → later w' (fun a' => Q .normal a' w') l specs a0) : (Code.region id l.toArray true).wp P Q a0 w := by
  subst hn
  refine wp_region_any hm (rows_any (specs := specs) (a0 := a0) (C := C) (E := E) hs (fun j v w w' => stands_at specs hst j v w w') hrefl ?_ ?_ _ _ _ _ ?_ (by simp) ?_)
  · intro i o ho
    obtain ⟨s, h1, h2⟩ := goods_at l specs hG i o (by simpa using ho)
    rw [h1]
    exact h2
  · intro listed a w' hI hall
    have hfill : fill (fun t => a.tmps.getD t undef) l a0 = a := by
      have hz := fill_size (fun t => a.tmps.getD t undef) l a0
      refine act_ext (hz.2.trans hI.defers.symm) (hz.1.trans hI.size.symm) fun t ht => ?_
      rw [hz.1] at ht
      cases hw : writer l.toArray t with
      | none =>
        rw [fill_other _ l a0 t (fun o ho => by
          obtain ⟨j, hj⟩ := List.getElem?_of_mem ho
          exact writer_none hw j o (by simpa using hj))]
        exact (hI.slot t (by simp [hw])).symm
      | some j =>
        obtain ⟨o, ho, hd⟩ := writer_some hw
        have hmem : o ∈ l := List.mem_of_getElem? (by simpa using ho)
        rw [fill_same _ l a0 t ht ⟨o, hmem, hd⟩]
        obtain ⟨v, hv, _⟩ := hI.done t j hw (hall j (Array.getElem?_eq_some_iff.1 ho).1)
        simp [hv, Array.getD_eq_getD_getElem?]
    have h := later_fill (w := w') (K := fun a' => Q .normal a' w') (fun t => a.tmps.getD t undef) l specs a0 (hF w' hI.cls) (fun j o d s ho hd hss => by
      have hw := ((sound_at hs (i := j) (o := o) (by simpa using ho)).2.2 d hd).2
      obtain ⟨v, hv, hk⟩ := hI.done d j hw (hall j (by simpa using (List.getElem?_eq_some_iff.1 ho).1))
      rw [hss] at hk
      simpa [hv, Array.getD_eq_getD_getElem?] using hk)
    rwa [hfill] at h
  · refine ⟨hC, rfl, rfl, fun t _ => rfl, fun t j _ hl => ?_⟩
    have : (Array.replicate l.toArray.size false).getD j false = false := by
      rw [Array.getD_eq_getD_getElem?, Array.getElem?_replicate]
      split <;> rfl
    rw [this] at hl
    cases hl
  · exact cnt_all _ _ (fun j hj => by simp at hj; simp [hj])
end
end Go.Proofs.YtnmonoafjijfhaaGreat.Rg
