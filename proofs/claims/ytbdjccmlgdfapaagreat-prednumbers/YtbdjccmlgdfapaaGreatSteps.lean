/-
  Plain facts on Go's bit operations at single numbers: masks, joins and turned bits, in the words of the walk. A region whose order is open, by what each of its operations leaves: if each operation, wherever it comes up, leaves a value that meets its own sentence, and a world in which the sentences still hold, then whatever order is picked all sentences hold at the end. The operations of a region whose order is open, one law a kind: what each owes its sentence.
-/
import Derived.WalkKit
import Derived.Laws.BitsLemmas
import Derived.Orders
namespace Go.Proofs.YtbdjccmlgdfapaaGreat.I
open Go

theorem w64 (n : Int) : IntKind.u64.wrap n = n % 18446744073709551616 := by simp [IntKind.wrap, IntKind.bits, IntKind.signed]
theorem wraps64 (n : Int) (h₀ : 0 ≤ n) (h₁ : n < 2 ^ 64) : IntKind.u64.wrap n = n := by rw [w64]; omega
theorem and1 (n : Int) (h : 0 ≤ n) (h2 : n ≤ 18446744073709551615) : bits .and .u64 n 1 = n % 2 :=
 bits_mask .u64 64 (by decide) wraps64 1 (by decide) n h (by omega)
theorem and127 (n : Int) (h : 0 ≤ n) (h2 : n ≤ 18446744073709551615) : bits .and .u64 n 127 = n % 128 :=
 bits_mask .u64 64 (by decide) wraps64 7 (by decide) n h (by omega)
theorem and127b (n : Int) (h : 0 ≤ n) (h2 : n ≤ 255) : bits .and .u8 n 127 = n % 128 :=
 bits_mask .u8 8 (by decide) wraps_u8 7 (by decide) n h (by omega)
theorem or128b (n : Int) (h : 0 ≤ n) (h2 : n < 128) : bits .or .u8 n 128 = n + 128 := by
 obtain ⟨a, rfl⟩ := Int.eq_ofNat_of_zero_le h
 have ha : a < 128 := by omega
 have e := bits_join .u8 8 (by decide) wraps_u8 7 128 (a : Int) (by decide) (by decide) (by decide) h (by omega) (by omega)
 have c : bits .or .u8 (a : Int) ((128 : Nat) : Int) = bits .or .u8 ((128 : Nat) : Int) (a : Int) := by
  rw [(bits_nat .u8 8 (by decide) wraps_u8 a 128 (by omega) (by decide)).2, (bits_nat .u8 8 (by decide) wraps_u8 128 a (by decide) (by omega)).2, Nat.or_comm]
 have c' : bits .or .u8 (a : Int) 128 = bits .or .u8 128 (a : Int) := c
 rw [c', e]; omega
theorem orJoin (x d : Int) (hx : 0 ≤ x) (hx2 : x < 18446744073709551616) (hm : x % 128 = 0) (hd : 0 ≤ d) (hd2 : d < 128) : bits .or .u64 x d = x + d :=
 bits_join .u64 64 (by decide) wraps64 7 x d hx (by simpa using hm) (by simpa using hx2) hd (by simpa using hd2) (by omega)

theorem xor1i (x : Int) (h : -9223372036854775808 ≤ x) (h2 : x ≤ 9223372036854775807) : bits .xor .i64 (-1) x = -x - 1 := by
 have e : (BitVec.ofInt 64 (-1) ^^^ BitVec.ofInt 64 x) = ~~~(BitVec.ofInt 64 x) := by
  rw [show BitVec.ofInt 64 (-1) = BitVec.allOnes 64 from by decide, BitVec.allOnes_xor]
 show IntKind.i64.wrap ((BitVec.ofInt 64 (-1) ^^^ BitVec.ofInt 64 x).toNat : Int) = _
 rw [e, BitVec.toNat_not, IntKind.wrap_i64]
 have t : ((BitVec.ofInt 64 x).toNat : Int) = x % 18446744073709551616 := by
  rw [BitVec.toNat_ofInt]; simp; omega
 have l := (BitVec.ofInt 64 x).isLt
 omega
theorem xor1u (x : Int) (h : 0 ≤ x) (h2 : x < 18446744073709551616) : bits .xor .u64 IntKind.u64.max x = 18446744073709551615 - x := by
 have e : (BitVec.ofInt 64 IntKind.u64.max ^^^ BitVec.ofInt 64 x) = ~~~(BitVec.ofInt 64 x) := by
  rw [show BitVec.ofInt 64 IntKind.u64.max = BitVec.allOnes 64 from by decide, BitVec.allOnes_xor]
 show IntKind.u64.wrap ((BitVec.ofInt 64 IntKind.u64.max ^^^ BitVec.ofInt 64 x).toNat : Int) = _
 rw [e, BitVec.toNat_not, w64]
 have t : ((BitVec.ofInt 64 x).toNat : Int) = x % 18446744073709551616 := by
  rw [BitVec.toNat_ofInt]; simp; omega
 have l := (BitVec.ofInt 64 x).isLt
 omega
theorem ret_int {k : IntKind} {a b : Int} (h : a = b) : Ending.returned (.int k a) = .returned (.int k b) := by rw [h]
theorem ret_bool {a b : Bool} (h : a = b) : Ending.returned (.bool a) = .returned (.bool b) := by rw [h]
/-- A digit laid behind a number. -/
theorem digit (N c M : Nat) (hc : c < 256) (hN : N * 128 + c % 128 < 18446744073709551616) (hM : M = c % 128 + 128 * N) :
  bits .or .u64 ((N : Int) * 128) (IntKind.u64.wrap (bits .and .u8 (c : Int) 127)) = (M : Int) := by
 rw [and127b _ (by omega) (by omega), w64, Int.emod_eq_of_lt (by omega) (by omega), orJoin _ _ (by omega) (by omega) (by omega) (by omega) (by omega)]
 omega
theorem int_num {k : IntKind} {a b : Int} (h : a = b) : Value.int k a = Value.int k b := by rw [h]
end Go.Proofs.YtbdjccmlgdfapaaGreat.I
namespace Go.Proofs.YtbdjccmlgdfapaaGreat.Rg
open Go Go.RowKit

/-- The sentence of an operation: the value that it leaves, or what is so of it. -/
abbrev Spec := Value ⊕ (Value → World → Prop)
def Spec.ok : Spec → Value → World → Prop
 | .inl x, v, _ => v = x
 | .inr p, v, w => p v w

def cnt : Nat → (Nat → Bool) → Nat
 | 0, _ => 0
 | n + 1, f => cnt n f + if f n then 1 else 0
theorem cnt_same : ∀ (n : Nat) (f g : Nat → Bool), (∀ j, j < n → f j = g j) → cnt n f = cnt n g
 | 0, _, _, _ => rfl
 | n + 1, f, g, h => by simp only [cnt]; rw [cnt_same n f g (fun j hj => h j (by omega)), h n (by omega)]
theorem cnt_step : ∀ (n : Nat) (f g : Nat → Bool) (i : Nat), i < n → f i = true → g i = false → (∀ j, j ≠ i → f j = g j) → cnt n f = cnt n g + 1
 | 0, _, _, _, h, _, _, _ => by omega
 | n + 1, f, g, i, h, hf, hg, he => by
  simp only [cnt]
  by_cases hi : i = n
  ·subst hi
   rw [cnt_same i f g (fun j hj => he j (by omega)), hf, hg]
   simp
  ·rw [cnt_step n f g i (by omega) hf hg he, he n (by omega)]
   omega
theorem cnt_zero : ∀ (n : Nat) (f : Nat → Bool), cnt n f = 0 → ∀ j, j < n → f j = false
 | 0, _, _, _, h => by omega
 | n + 1, f, h, j, hj => by
  simp only [cnt] at h
  by_cases hjn : j = n
  ·subst hjn
   cases hf : f j with
   | false => rfl
   | true => rw [hf] at h; simp at h
  ·exact cnt_zero n f (by omega) j (by omega)
theorem cnt_all : ∀ (n : Nat) (f : Nat → Bool), (∀ j, j < n → f j = true) → cnt n f = n
 | 0, _, _ => rfl
 | n + 1, f, h => by simp only [cnt]; rw [cnt_all n f (fun j hj => h j (by omega)), h n (by omega)]; simp

/-- Which operation writes a slot. -/
def writer (ops : Array Oper) (t : Tmp) : Option Nat := (List.range ops.size).find? fun j => (ops[j]?).any fun o => o.dst == some t
/-- What is so of a slot where it is looked at. -/
def slotS (ops : Array Oper) (specs : List Spec) (a0 : Act) (t : Tmp) : Spec :=
 match writer ops t with
 | some j => (specs[j]?).getD (.inl undef)
 | none => .inl (a0.tmps.getD t undef)
/-- What is looked at in a region is there when it is looked at; each slot is written once. -/
def sound (ops : Array Oper) (n : Nat) : Bool :=
 (List.range ops.size).all fun i => match ops[i]? with
  | none => true
  | some o =>
   (o.after.all fun e => !Region.binds .any e || decide (e.on < i)) &&
   ((o.looksAt ops).all fun t => match writer ops t with | none => true | some j => o.after.any fun e => Region.binds .any e && e.on == j) &&
   (match o.dst with | none => true | some d => decide (d < n) && writer ops d == some i)

section
variable {P : Program} {ops : Array Oper} {specs : List Spec} {a0 : Act} {C : World → Prop} {E : World → World → Prop}

theorem writer_some {t : Tmp} {j : Nat} (h : writer ops t = some j) : ∃ o, ops[j]? = some o ∧ o.dst = some t := by
 unfold writer at h
 have := List.find?_some h
 cases ho : ops[j]? with
 | none => simp [ho] at this
 | some o => simp [ho] at this; exact ⟨o, rfl, this⟩
theorem writer_none {t : Tmp} (h : writer ops t = none) : ∀ (j : Nat) (o : Oper), ops[j]? = some o → o.dst ≠ some t := by
 intro j o ho hd
 unfold writer at h
 rw [List.find?_eq_none] at h
 have := h j (by simp; exact (Array.getElem?_eq_some_iff.1 ho).1)
 simp [ho, hd] at this

theorem sound_at {n i : Nat} {o : Oper} (h : sound ops n = true) (ho : ops[i]? = some o) :
  (∀ e ∈ o.after, Region.binds .any e = true → e.on < i) ∧
  (∀ t ∈ o.looksAt ops, ∀ j, writer ops t = some j → ∃ e ∈ o.after, Region.binds .any e = true ∧ e.on = j) ∧
  (∀ d, o.dst = some d → d < n ∧ writer ops d = some i) := by
 unfold sound at h
 rw [List.all_eq_true] at h
 have h1 := h i (by simp; exact (Array.getElem?_eq_some_iff.1 ho).1)
 rw [ho] at h1
 simp only [Bool.and_eq_true] at h1
 obtain ⟨⟨ha, hb⟩, hc⟩ := h1
 refine ⟨fun e he hbd => ?_, fun t ht j hj => ?_, fun d hd => ?_⟩
 ·have := Array.all_eq_true_iff_forall_mem.1 ha e he
  simpa [hbd] using this
 ·have := List.all_eq_true.1 hb t ht
  rw [hj] at this
  obtain ⟨e, he, h2⟩ := Array.any_eq_true'.1 this
  simp only [Bool.and_eq_true, beq_iff_eq] at h2
  exact ⟨e, he, h2.1, h2.2⟩
 ·rw [hd] at hc
  simpa using hc

/-- What is so at each time. -/
structure Inv (ops : Array Oper) (specs : List Spec) (a0 : Act) (C : World → Prop) (listed : Array Bool) (a : Act) (w : World) : Prop where
 cls : C w
 defers : a.defers = a0.defers
 size : a.tmps.size = a0.tmps.size
 slot : ∀ t, (∀ j, writer ops t = some j → listed.getD j false = false) → a.tmps[t]? = a0.tmps[t]?
 done : ∀ t j, writer ops t = some j → listed.getD j false = true → ∃ v, a.tmps[t]? = some v ∧ ((specs[j]?).getD (.inl undef)).ok v w

/-- What one operation owes: wherever it comes up, if what it looks at is as its sentences say, it leaves a value of its own sentence. -/
def GoodOp (P : Program) (ops : Array Oper) (specs : List Spec) (a0 : Act) (C : World → Prop) (E : World → World → Prop) (o : Oper) (s : Spec) : Prop :=
 ∀ (Q : Exit → Act → World → Prop) (a : Act) (w : World), C w → (∀ t ∈ o.looksAt ops, (slotS ops specs a0 t).ok (a.eval (.tmp t)) w) →
  (Region.wanted o (yielded ops a.tmps) = true → o.wp P a w (fun a' w' => ∃ v, a' = a.put o.dst v ∧ s.ok v w' ∧ E w w' ∧ C w') Q) ∧
  (Region.wanted o (yielded ops a.tmps) = false → s.ok undef w)

theorem Inv.sees {listed : Array Bool} {a : Act} {w : World} {n i : Nat} {o : Oper} (h : Inv ops specs a0 C listed a w) (hs : sound ops n = true) (ho : ops[i]? = some o) (hr : i ∈ Region.ready .any ops listed) :
  ∀ t ∈ o.looksAt ops, (slotS ops specs a0 t).ok (a.eval (.tmp t)) w := by
 intro t ht
 unfold slotS
 cases hw : writer ops t with
 | none =>
  simp only [Spec.ok, Act.eval]
  have := h.slot t (by simp [hw])
  simp [Array.getD_eq_getD_getElem?, this]
 | some j =>
  obtain ⟨e, he, hb, hj⟩ := (sound_at hs ho).2.1 t ht j hw
  obtain ⟨_, o', ho', hall⟩ := mem_ready.1 hr
  rw [ho] at ho'
  simp at ho'
  subst ho'
  have hl := hall e he hb
  rw [hj] at hl
  obtain ⟨v, hv, hk⟩ := h.done t j hw hl
  simp only [Act.eval, Array.getD_eq_getD_getElem?, hv]
  exact hk

theorem put_size (a : Act) (d : Option Tmp) (v : Value) : (a.put d v).tmps.size = a.tmps.size := by cases d <;> simp [Act.put]
theorem put_other (a : Act) {d : Option Tmp} (v : Value) {t : Tmp} (h : d ≠ some t) : (a.put d v).tmps[t]? = a.tmps[t]? := by
 cases d with
 | none => rfl
 | some d => simp only [Act.put]; exact Array.getElem?_setIfInBounds_ne (fun e => h (by rw [e]))
theorem put_same (a : Act) {d : Tmp} (v : Value) (h : d < a.tmps.size) : (a.put (some d) v).tmps[d]? = some v := by simp [Act.put, h]
theorem put_defers (a : Act) (d : Option Tmp) (v : Value) : (a.put d v).defers = a.defers := by cases d <;> rfl

theorem Inv.step {listed : Array Bool} {a : Act} {w w' : World} {i : Nat} {o : Oper} {v : Value} (h : Inv ops specs a0 C listed a w) (hs : sound ops a0.tmps.size = true) (ho : ops[i]? = some o) (hi : i < listed.size)
  (hst : ∀ (j : Nat) (v : Value) (w w' : World), ((specs[j]?).getD (.inl undef)).ok v w → E w w' → ((specs[j]?).getD (.inl undef)).ok v w') (hE : E w w') (hC : C w') (hv : ((specs[i]?).getD (.inl undef)).ok v w') :
  Inv ops specs a0 C (listed.setIfInBounds i true) (a.put o.dst v) w' := by
 have hsd := (sound_at hs ho).2.2
 refine ⟨hC, by rw [put_defers]; exact h.defers, by rw [put_size]; exact h.size, fun t ht => ?_, fun t j hj hl => ?_⟩
 ·have hne : o.dst ≠ some t := fun hd => by
   have := ht i (hsd t hd).2
   simp [hi] at this
  rw [put_other a v hne]
  refine h.slot t fun j hj => ?_
  have := ht j hj
  by_cases hij : i = j
  ·subst hij
   simp [hi] at this
  ·rwa [getD_set_ne false hij] at this
 ·by_cases hij : j = i
  ·subst hij
   obtain ⟨o', ho', hd⟩ := writer_some hj
   rw [ho] at ho'
   simp at ho'
   subst ho'
   rw [hd]
   exact ⟨v, put_same a v (by rw [h.size]; exact (hsd t hd).1), hv⟩
  ·have hne : o.dst ≠ some t := fun hd => by
    have := (hsd t hd).2
    rw [hj] at this
    simp at this
    exact hij this
   rw [put_other a v hne]
   rw [getD_set_ne false (Ne.symm hij)] at hl
   obtain ⟨u, hu, hk⟩ := h.done t j hj hl
   exact ⟨u, hu, hst j u w w' hk hE⟩

theorem all_listed {listed : Array Bool} {n : Nat} (hs : sound ops n = true) (hr : Region.ready .any ops listed = []) (hsz : listed.size = ops.size) : ∀ j, j < ops.size → listed.getD j false = true := by
 intro j
 induction j using Nat.strongRecOn with
 | _ j ih =>
  intro hj
  cases hl : listed.getD j false with
  | true => rfl
  | false =>
   have ho : ops[j]? = some ops[j] := Array.getElem?_eq_getElem hj
   have : j ∈ Region.ready .any ops listed := by
    rw [mem_ready]
    refine ⟨?_, ops[j], ho, fun e he hb => ?_⟩
    ·have hj' : j < listed.size := by omega
     simp [hj'] at hl ⊢
     exact hl
    ·have := (sound_at hs ho).1 e he hb
     exact ih e.on this (by omega)
   rw [hr] at this
   cases this

theorem rows_any {Q : Exit → Act → World → Prop} (hs : sound ops a0.tmps.size = true)
  (hst : ∀ (j : Nat) (v : Value) (w w' : World), ((specs[j]?).getD (.inl undef)).ok v w → E w w' → ((specs[j]?).getD (.inl undef)).ok v w') (hrefl : ∀ w, E w w)
  (hG : ∀ (i : Nat) (o : Oper), ops[i]? = some o → GoodOp P ops specs a0 C E o ((specs[i]?).getD (.inl undef)))
  (hF : ∀ (listed : Array Bool) (a : Act) (w : World), Inv ops specs a0 C listed a w → (∀ j, j < ops.size → listed.getD j false = true) → Q .normal a w) :
  ∀ (fuel : Nat) (listed : Array Bool) (a : Act) (w : World), Inv ops specs a0 C listed a w → listed.size = ops.size → cnt ops.size (fun j => !listed.getD j true) = fuel → wpAny P .any ops Q fuel listed a w
 | 0, listed, a, w, h, hsz, hc => by
  have hall : ∀ j, j < ops.size → listed.getD j false = true := fun j hj => by
   have := cnt_zero _ _ hc j hj
   have hj' : j < listed.size := by omega
   simp [hj'] at this ⊢
   exact this
  refine ⟨?_, hF listed a w h hall⟩
  cases hr : Region.ready .any ops listed with
  | nil => rfl
  | cons x xs =>
   have hx : x ∈ Region.ready .any ops listed := by rw [hr]; simp
   obtain ⟨h0, o, ho, _⟩ := mem_ready.1 hx
   have hx' : x < ops.size := (Array.getElem?_eq_some_iff.1 ho).1
   have h1 := hall x hx'
   have hx2 : x < listed.size := by omega
   simp [hx2] at h0 h1
   rw [h0] at h1
   cases h1
 | fuel + 1, listed, a, w, h, hsz, hc => by
  refine ⟨fun hr => hF listed a w h (all_listed hs hr hsz), fun i hi => ?_⟩
  obtain ⟨h0, o, ho, _⟩ := mem_ready.1 hi
  have hi' : i < ops.size := (Array.getElem?_eq_some_iff.1 ho).1
  have hi2 : i < listed.size := by omega
  have hnext : ∀ (v : Value) (w' : World), ((specs[i]?).getD (.inl undef)).ok v w' → E w w' → C w' → wpAny P .any ops Q fuel (listed.setIfInBounds i true) (a.put o.dst v) w' := by
   intro v w' hv hE hC
   refine rows_any hs hst hrefl hG hF fuel _ _ _ (h.step hs ho hi2 hst hE hC hv) (by simp; exact hsz) ?_
   have hstep := cnt_step ops.size (fun j => !listed.getD j true) (fun j => !(listed.setIfInBounds i true).getD j true) i hi' (by simp [h0]) (by simp [hi2]) (fun j hj => by rw [getD_set_ne true (Ne.symm hj)])
   omega
  have hg := hG i o ho Q a w h.cls (h.sees hs ho hi)
  unfold wpOp
  simp only [ho]
  split
  ·rename_i hw
   refine .inl (Oper.wp_mono (fun a' w' hk => ?_) (hg.1 hw))
   obtain ⟨v, rfl, hv, hE, hC⟩ := hk
   exact hnext v w' hv hE hC
  ·rename_i hw
   exact hnext undef w (hg.2 (by simpa using hw)) (hrefl w) h.cls

/-- All that the operations leave, one behind the other. -/
def later (w : World) (K : Act → Prop) : List Oper → List Spec → Act → Prop
 | [], _, a => K a
 | _ :: _, [], _ => False
 | o :: os, s :: ss, a =>
  match o.dst, s with
  | none, _ => later w K os ss a
  | some d, .inl x => later w K os ss (a.put (some d) x)
  | some d, .inr p => ∀ v, p v w → later w K os ss (a.put (some d) v)

/-- The frame with the values of f in the slots that are written. -/
def fill (f : Tmp → Value) : List Oper → Act → Act
 | [], a => a
 | o :: os, a => fill f os (match o.dst with | none => a | some d => a.put (some d) (f d))

theorem later_fill {w : World} {K : Act → Prop} (f : Tmp → Value) : ∀ (os : List Oper) (ss : List Spec) (a : Act), later w K os ss a →
  (∀ (j : Nat) (o : Oper) (d : Tmp) (s : Spec), os[j]? = some o → o.dst = some d → ss[j]? = some s → s.ok (f d) w) → K (fill f os a)
 | [], _, _, h, _ => h
 | _ :: _, [], _, h, _ => h.elim
 | o :: os, s :: ss, a, h, hk => by
  have hrest : ∀ (j : Nat) (o : Oper) (d : Tmp) (s : Spec), os[j]? = some o → o.dst = some d → ss[j]? = some s → s.ok (f d) w := fun j o d s h1 h2 h3 => hk (j + 1) o d s (by simpa using h1) h2 (by simpa using h3)
  simp only [fill]
  cases hd : o.dst with
  | none =>
   simp only [later, hd] at h
   exact later_fill f os ss a h hrest
  | some d =>
   have h0 := hk 0 o d s rfl hd rfl
   cases s with
   | inl x =>
    simp only [later, hd] at h
    simp only [Spec.ok] at h0
    show K (fill f os (a.put (some d) (f d)))
    rw [h0]
    exact later_fill f os ss _ h hrest
   | inr p =>
    simp only [later, hd] at h
    exact later_fill f os ss _ (h _ h0) hrest

theorem fill_size (f : Tmp → Value) : ∀ (os : List Oper) (a : Act), (fill f os a).tmps.size = a.tmps.size ∧ (fill f os a).defers = a.defers
 | [], _ => ⟨rfl, rfl⟩
 | o :: os, a => by
  have h := fill_size f os (match o.dst with | none => a | some d => a.put (some d) (f d))
  simp only [fill]
  refine ⟨h.1.trans ?_, h.2.trans ?_⟩ <;> cases o.dst <;> simp [Act.put]
theorem fill_other (f : Tmp → Value) : ∀ (os : List Oper) (a : Act) (t : Tmp), (∀ o ∈ os, o.dst ≠ some t) → (fill f os a).tmps[t]? = a.tmps[t]?
 | [], _, _, _ => rfl
 | o :: os, a, t, h => by
  simp only [fill]
  rw [fill_other f os _ t (fun o ho => h o (List.mem_cons_of_mem _ ho))]
  have := h o List.mem_cons_self
  cases hd : o.dst with
  | none => rfl
  | some d => exact put_other a (f d) (by rw [← hd]; exact this)
theorem fill_same (f : Tmp → Value) : ∀ (os : List Oper) (a : Act) (t : Tmp), t < a.tmps.size → (∃ o ∈ os, o.dst = some t) → (fill f os a).tmps[t]? = some (f t)
 | [], _, _, _, ⟨_, h, _⟩ => by cases h
 | o :: os, a, t, hlt, h => by
  simp only [fill]
  by_cases hex : ∃ o ∈ os, o.dst = some t
  ·refine fill_same f os _ t ?_ hex
   cases o.dst <;> simp [Act.put, hlt]
  ·rw [fill_other f os _ t (fun o ho hd => hex ⟨o, ho, hd⟩)]
   obtain ⟨o', ho', hd⟩ := h
   rcases List.mem_cons.1 ho' with rfl | hmem
   ·rw [hd]; exact put_same a (f t) hlt
   ·exact absurd ⟨o', hmem, hd⟩ hex

theorem act_ext {a b : Act} (h1 : a.defers = b.defers) (h2 : a.tmps.size = b.tmps.size) (h3 : ∀ t, t < a.tmps.size → a.tmps[t]? = b.tmps[t]?) : a = b := by
 cases a with
 | mk ta da =>
  cases b with
  | mk tb db =>
   simp only at h1 h2 h3
   subst h1
   have : ta = tb := Array.ext h2 fun i hi hi' => by
    have := h3 i hi
    rw [Array.getElem?_eq_getElem hi, Array.getElem?_eq_getElem hi'] at this
    simpa using this
   rw [this]

/-- Each operation owes its own. -/
def Goods (P : Program) (ops : Array Oper) (specs : List Spec) (a0 : Act) (C : World → Prop) (E : World → World → Prop) : List Oper → List Spec → Prop
 | [], [] => True
 | o :: os, s :: ss => GoodOp P ops specs a0 C E o s ∧ Goods P ops specs a0 C E os ss
 | _, _ => False
theorem goods_nil : Goods P ops specs a0 C E [] [] := trivial
theorem goods_cons {o : Oper} {os : List Oper} {s : Spec} {ss : List Spec} (h : GoodOp P ops specs a0 C E o s) (h2 : Goods P ops specs a0 C E os ss) : Goods P ops specs a0 C E (o :: os) (s :: ss) := ⟨h, h2⟩
theorem goods_at : ∀ (os : List Oper) (ss : List Spec), Goods P ops specs a0 C E os ss → ∀ (i : Nat) (o : Oper), os[i]? = some o → ∃ s, ss[i]? = some s ∧ GoodOp P ops specs a0 C E o s
 | [], _, _, i, o, h => by simp at h
 | _ :: _, [], h, _, _, _ => h.elim
 | o :: os, s :: ss, h, 0, o', ho => by simp at ho; subst ho; exact ⟨s, rfl, h.1⟩
 | o :: os, s :: ss, h, i + 1, o', ho => by
  obtain ⟨s', h1, h2⟩ := goods_at os ss h.2 i o' (by simpa using ho)
  exact ⟨s', by simpa using h1, h2⟩

/-- A SENTENCE STANDS THROUGH LATER WORLDS. -/
def Stands (E : World → World → Prop) : List Spec → Prop
 | [] => True
 | .inl _ :: r => Stands E r
 | .inr p :: r => (∀ v w w', p v w → E w w' → p v w') ∧ Stands E r
theorem stands_at : ∀ (ss : List Spec), Stands E ss → ∀ (j : Nat) (v : Value) (w w' : World), ((ss[j]?).getD (.inl undef)).ok v w → E w w' → ((ss[j]?).getD (.inl undef)).ok v w'
 | [], _, j, v, w, w', h, _ => by simpa [Spec.ok] using h
 | .inl x :: r, hs, 0, v, w, w', h, _ => by simpa [Spec.ok] using h
 | .inr p :: r, hs, 0, v, w, w', h, hE => by simpa [Spec.ok] using hs.1 v w w' (by simpa [Spec.ok] using h) hE
 | .inl x :: r, hs, j + 1, v, w, w', h, hE => by
  have := stands_at r hs j v w w' (by simpa using h) hE
  simpa using this
 | .inr p :: r, hs, j + 1, v, w, w', h, hE => by
  have := stands_at r hs.2 j v w w' (by simpa using h) hE
  simpa using this

/-- **A REGION WHOSE ORDER IS OPEN, BY THE SENTENCES OF ITS OPERATIONS.** -/
theorem wp_rows {id : Nat} {Q : Exit → Act → World → Prop} {w : World} {l : List Oper} (specs : List Spec) (C : World → Prop) (E : World → World → Prop) (n : Nat) (hm : P.follows .mixedOrders = true)
  (hn : a0.tmps.size = n) (hs : sound l.toArray n = true) (hst : Stands E specs) (hrefl : ∀ w, E w w) (hC : C w.drew)
  (hG : Goods P l.toArray specs a0 C E l specs) (hF : ∀ w', C w' → later w' (fun a' => Q .normal a' w') l specs a0) : (Code.region id l.toArray true).wp P Q a0 w := by
 subst hn
 refine wp_region_any hm (rows_any (specs := specs) (a0 := a0) (C := C) (E := E) hs (fun j v w w' => stands_at specs hst j v w w') hrefl ?_ ?_ _ _ _ _ ?_ (by simp) ?_)
 ·intro i o ho
  obtain ⟨s, h1, h2⟩ := goods_at l specs hG i o (by simpa using ho)
  rw [h1]
  exact h2
 ·intro listed a w' hI hall
  have hfill : fill (fun t => a.tmps.getD t undef) l a0 = a := by
   have hz := fill_size (fun t => a.tmps.getD t undef) l a0
   refine act_ext (hz.2.trans hI.defers.symm) (hz.1.trans hI.size.symm) fun t ht => ?_
   rw [hz.1] at ht
   cases hw : writer l.toArray t with
   | none =>
    rw [fill_other _ l a0 t (fun o ho => by
     obtain ⟨j, hj⟩ := List.getElem?_of_mem ho
     exact writer_none hw j o (by simpa using hj))]
    exact (hI.slot t (by simp [hw])).symm
   | some j =>
    obtain ⟨o, ho, hd⟩ := writer_some hw
    have hmem : o ∈ l := List.mem_of_getElem? (by simpa using ho)
    rw [fill_same _ l a0 t ht ⟨o, hmem, hd⟩]
    obtain ⟨v, hv, _⟩ := hI.done t j hw (hall j (Array.getElem?_eq_some_iff.1 ho).1)
    simp [hv, Array.getD_eq_getD_getElem?]
  have h := later_fill (w := w') (K := fun a' => Q .normal a' w') (fun t => a.tmps.getD t undef) l specs a0 (hF w' hI.cls) (fun j o d s ho hd hss => by
   have hw := ((sound_at hs (i := j) (o := o) (by simpa using ho)).2.2 d hd).2
   obtain ⟨v, hv, hk⟩ := hI.done d j hw (hall j (by simpa using (List.getElem?_eq_some_iff.1 ho).1))
   rw [hss] at hk
   simpa [hv, Array.getD_eq_getD_getElem?] using hk)
  rwa [hfill] at h
 ·refine ⟨hC, rfl, rfl, fun t _ => rfl, fun t j _ hl => ?_⟩
  have : (Array.replicate l.toArray.size false).getD j false = false := by
   rw [Array.getD_eq_getD_getElem?, Array.getElem?_replicate]
   split <;> rfl
  rw [this] at hl
  cases hl
 ·exact cnt_all _ _ (fun j hj => by simp at hj; simp [hj])
end
end Go.Proofs.YtbdjccmlgdfapaaGreat.Rg
namespace Go.Proofs.YtbdjccmlgdfapaaGreat.Rg
open Go Go.RowKit

/-- What the guard of an operation says, by the sentences. -/
def guardV (ops : Array Oper) (specs : List Spec) (a0 : Act) (o : Oper) : Option Bool :=
 match o.guard with
 | none => some true
 | some (g, want) =>
  match (ops[g]?).bind (·.dst) with
  | none => none
  | some d =>
   match slotS ops specs a0 d with
   | .inl (.bool b) => some (b == want)
   | .inl _ => some false
   | .inr _ => none
/-- What is so of an operand. -/
def argS (ops : Array Oper) (specs : List Spec) (a0 : Act) : Operand → Spec
 | .tmp t => slotS ops specs a0 t
 | .const v => .inl v
 | .global g => .inl (.pointer (some ⟨g, 0, none⟩))
 | .func f => .inl (.func (.func f) #[] #[])

section
variable {P : Program} {ops : Array Oper} {specs : List Spec} {a0 : Act} {C : World → Prop} {E : World → World → Prop} {o : Oper} {s : Spec}

theorem wanted_of {a : Act} {w : World} {b : Bool} (h : guardV ops specs a0 o = some b) (hs : ∀ t ∈ o.looksAt ops, (slotS ops specs a0 t).ok (a.eval (.tmp t)) w) : Region.wanted o (yielded ops a.tmps) = b := by
 unfold guardV at h
 unfold Region.wanted
 cases hg : o.guard with
 | none => rw [hg] at h; simpa using h
 | some gw =>
  obtain ⟨g, want⟩ := gw
  rw [hg] at h
  simp only at h ⊢
  cases hd : (ops[g]?).bind (·.dst) with
  | none => rw [hd] at h; simp at h
  | some d =>
   rw [hd] at h
   simp only at h
   have hok := hs d (by unfold Oper.looksAt; rw [hg]; simp only [hd]; simp)
   cases hsl : slotS ops specs a0 d with
   | inr p => rw [hsl] at h; simp at h
   | inl x =>
    rw [hsl] at h hok
    simp only [Spec.ok, Act.eval] at hok
    have hsome : ∀ u, a.tmps[d]? = some u → u = x := by
     intro u hu
     rw [Array.getD_eq_getD_getElem?, hu] at hok
     simpa using hok
    unfold yielded
    rw [hd]
    simp only [Option.bind_some]
    cases x with
    | bool c =>
     simp at h
     subst h
     have hsome' : a.tmps[d]? = some (.bool c) := by
      rw [Array.getD_eq_getD_getElem?] at hok
      cases hx : a.tmps[d]? with
      | none => rw [hx] at hok; simp [undef] at hok
      | some u => rw [hx] at hok; simp at hok; rw [hok]
     simp [hsome']
    | _ =>
     simp at h
     subst h
     cases hx : a.tmps[d]? with
     | none => simp
     | some u => rw [hsome u hx]; simp

theorem arg_ok {a : Act} {w : World} {x : Operand} (hx : x ∈ o.op.operands) (hs : ∀ t ∈ o.looksAt ops, (slotS ops specs a0 t).ok (a.eval (.tmp t)) w) : (argS ops specs a0 x).ok (a.eval x) w := by
 cases x with
 | tmp t => exact hs t (by unfold Oper.looksAt; exact List.mem_append_left _ (List.mem_filterMap.2 ⟨.tmp t, by simpa using hx, rfl⟩))
 | const v => rfl
 | global g => rfl
 | func f => rfl

theorem run_enter {f : FuncId} {fn : Func} {c : Code} (hf : P.funcs[f]? = some fn) (hname : (fn.name == "runtime.NumGoroutine") = false) (hb : fn.body = some c) (args : Array Value) (w : World) :
  (callFunc f args).run P w = .ok (.enter f args) w := by
 have h1 : fn.name ≠ "runtime.NumGoroutine" := by simpa using hname
 simp [callFunc, hf, h1, hb]
theorem good_of (hg : guardV ops specs a0 o = some true)
  (h : ∀ (Q : Exit → Act → World → Prop) (a : Act) (w : World), C w → (∀ x ∈ o.op.operands, (argS ops specs a0 x).ok (a.eval x) w) → o.wp P a w (fun a' w' => ∃ v, a' = a.put o.dst v ∧ s.ok v w' ∧ E w w' ∧ C w') Q) : GoodOp P ops specs a0 C E o s :=
 fun Q a w hC hs => ⟨fun _ => h Q a w hC (fun x hx => arg_ok hx hs), fun hw => by rw [wanted_of hg hs] at hw; cases hw⟩
theorem good_skip (hg : guardV ops specs a0 o = some false) : GoodOp P ops specs a0 C E o (.inl undef) :=
 fun Q a w hC hs => ⟨fun hw => (by rw [wanted_of hg hs] at hw; cases hw), fun _ => rfl⟩
theorem good_val (hrefl : ∀ w, E w w) (hg : guardV ops specs a0 o = some true)
  (h : ∀ (a : Act) (w : World), C w → (∀ x ∈ o.op.operands, (argS ops specs a0 x).ok (a.eval x) w) → ∃ v, (execOp a.eval o).run P w = .ok (.value v) w ∧ s.ok v w) : GoodOp P ops specs a0 C E o s :=
 good_of hg fun Q a w hC hs => by
  obtain ⟨v, hr, hv⟩ := h a w hC hs
  unfold Oper.wp
  rw [hr]
  exact ⟨v, rfl, hv, hrefl w, hC⟩
/-- An operation of which all that it looks at is known. -/
theorem good_known (hrefl : ∀ w, E w w) (hg : guardV ops specs a0 o = some true) (ρ : Operand → Value) (v : Value) (hsel : ∀ cs b, o.op ≠ .select cs b)
  (hρ : ∀ x ∈ o.op.operands, argS ops specs a0 x = .inl (ρ x)) (h : ∀ w, C w → (execOp ρ o).run P w = .ok (.value v) w) : GoodOp P ops specs a0 C E o (.inl v) :=
 good_val hrefl hg fun a w hC hs => by
  have e : execOp a.eval o = execOp ρ o := execOp_congr o hsel fun x hx => by
   have := hs x hx
   rw [hρ x hx] at this
   exact this
  rw [e]
  exact ⟨v, h w hC, rfl⟩

theorem good_move {x : Operand} (hrefl : ∀ w, E w w) (ho : o.op = .move x) (hg : guardV ops specs a0 o = some true) (hs : argS ops specs a0 x = s) : GoodOp P ops specs a0 C E o s :=
 good_val hrefl hg fun a w hC h => by
  have hx := h x (by rw [ho]; simp [Op.operands])
  rw [hs] at hx
  exact ⟨a.eval x, by unfold execOp; rw [ho]; rfl, hx⟩
theorem good_assign {x : Operand} (hrefl : ∀ w, E w w) (ho : o.op = .assign x) (hg : guardV ops specs a0 o = some true) (hs : argS ops specs a0 x = s) : GoodOp P ops specs a0 C E o s :=
 good_val hrefl hg fun a w hC h => by
  have hx := h x (by rw [ho]; simp [Op.operands])
  rw [hs] at hx
  exact ⟨a.eval x, by unfold execOp; rw [ho]; rfl, hx⟩
theorem good_pick {c x y : Operand} (b : Bool) (hrefl : ∀ w, E w w) (ho : o.op = .pick c x y) (hg : guardV ops specs a0 o = some true) (hc : argS ops specs a0 c = .inl (.bool b))
  (hs : (if b then argS ops specs a0 x else argS ops specs a0 y) = s) : GoodOp P ops specs a0 C E o s :=
 good_val hrefl hg fun a w hC h => by
  have h1 := h c (by rw [ho]; simp [Op.operands])
  have h2 := h x (by rw [ho]; simp [Op.operands])
  have h3 := h y (by rw [ho]; simp [Op.operands])
  rw [hc] at h1
  simp only [Spec.ok] at h1
  refine ⟨if b then a.eval x else a.eval y, by unfold execOp; rw [ho]; simp only [h1]; rfl, ?_⟩
  rw [← hs]
  cases b <;> simp <;> assumption
theorem good_bin {op : BinOp} {ty r : TypeId} {x y : Operand} {vx vy v : Value} (hrefl : ∀ w, E w w) (ho : o.op = .binOp op ty x y r) (hg : guardV ops specs a0 o = some true)
  (hx : argS ops specs a0 x = .inl vx) (hy : argS ops specs a0 y = .inl vy) (he : ∀ w, (eqGuard op ty x y vx vy).run P w = .ok () w) (h : ∀ w, (binOp op ty vx vy).run P w = .ok v w) : GoodOp P ops specs a0 C E o (.inl v) :=
 good_val hrefl hg fun a w hC hh => by
  have h1 := hh x (by rw [ho]; simp [Op.operands])
  have h2 := hh y (by rw [ho]; simp [Op.operands])
  rw [hx] at h1
  rw [hy] at h2
  simp only [Spec.ok] at h1 h2
  refine ⟨v, ?_, rfl⟩
  unfold execOp
  rw [ho]
  simp only [h1, h2, Sem.run_bind, he w, Result.andThen, h w, Sem.run_pure]
theorem good_un {op : UnOp} {ty : TypeId} {x : Operand} {vx v : Value} (hrefl : ∀ w, E w w) (ho : o.op = .unOp op ty x) (hg : guardV ops specs a0 o = some true)
  (hx : argS ops specs a0 x = .inl vx) (h : ∀ w, (Op.unary op vx).run P w = .ok v w) : GoodOp P ops specs a0 C E o (.inl v) :=
 good_val hrefl hg fun a w hC hh => by
  have h1 := hh x (by rw [ho]; simp [Op.operands])
  rw [hx] at h1
  simp only [Spec.ok] at h1
  refine ⟨v, ?_, rfl⟩
  unfold execOp
  rw [ho]
  simp only [h1, Sem.run_bind, Result.andThen, h w, Sem.run_pure]
theorem good_conv {src dst : TypeId} {x : Operand} {v : Value} (hrefl : ∀ w, E w w) (ho : o.op = .convert src dst x) (hg : guardV ops specs a0 o = some true)
  (h : ∀ u w, C w → (argS ops specs a0 x).ok u w → (convert src dst u).run P w = .ok v w) : GoodOp P ops specs a0 C E o (.inl v) :=
 good_val hrefl hg fun a w hC hh => by
  have h1 := h _ w hC (hh x (by rw [ho]; simp [Op.operands]))
  refine ⟨v, ?_, rfl⟩
  unfold execOp
  rw [ho]
  simp only [Sem.run_bind, Result.andThen, h1, Sem.run_pure]
theorem good_len {x : Operand} {ats : Array TypeId} {v : Value} (hrefl : ∀ w, E w w) (ho : o.op = .call { callee := .builtin .len, args := #[x], argTypes := ats }) (hg : guardV ops specs a0 o = some true)
  (h : ∀ u w, C w → (argS ops specs a0 x).ok u w → (Builtin.len_ ats o.type #[u]).run P w = .ok v w) : GoodOp P ops specs a0 C E o (.inl v) :=
 good_val hrefl hg fun a w hC hh => by
  have h1 := h _ w hC (hh x (by rw [ho]; simp [Op.operands, Call.operands]))
  refine ⟨v, ?_, rfl⟩
  unfold execOp
  rw [ho]
  simp only [resolve, invoke, builtin, Sem.run_bind, Sem.run_pure, Result.andThen, List.map_toArray, List.map_cons, List.map_nil, h1]
/-- A call of a function of the program's own. -/
theorem good_call {f : FuncId} {xs : Array Operand} {ats : Array TypeId} {fn : Func} {cd : Code} (hf : P.funcs[f]? = some fn) (hname : (fn.name == "runtime.NumGoroutine") = false) (hb : fn.body = some cd)
  (ho : o.op = .call { callee := .value (.func f), args := xs, argTypes := ats }) (hg : guardV ops specs a0 o = some true)
  (h : ∀ (a : Act) (w : World), C w → (∀ x ∈ xs, (argS ops specs a0 x).ok (a.eval x) w) → Calls P f (xs.map a.eval) w (fun e w' => ∃ v, e = .returned v ∧ s.ok v w' ∧ E w w' ∧ C w')) : GoodOp P ops specs a0 C E o s :=
 good_of hg fun Q a w hC hs => by
  have hc := h a w hC (fun x hx => hs x (by rw [ho]; simp [Op.operands, Call.operands, hx]))
  have hr : (execOp a.eval o).run P w = .ok (.enter f (xs.map a.eval)) w := by
   have e : execOp a.eval o = callFunc f (#[] ++ xs.map a.eval ++ #[]) := by unfold execOp; rw [ho]; rfl
   rw [e, run_enter hf hname hb]
   simp
  unfold Oper.wp
  rw [hr]
  refine Calls.mono hc fun e w' ⟨v, he, hv⟩ => ?_
  subst he
  exact ⟨v, rfl, hv⟩
theorem good_call0 {f : FuncId} {ats : Array TypeId} {fn : Func} {cd : Code} (hf : P.funcs[f]? = some fn) (hname : (fn.name == "runtime.NumGoroutine") = false) (hb : fn.body = some cd)
  (ho : o.op = .call { callee := .value (.func f), args := #[], argTypes := ats }) (hg : guardV ops specs a0 o = some true)
  (h : ∀ (w : World), C w → Calls P f #[] w (fun e w' => ∃ v, e = .returned v ∧ s.ok v w' ∧ E w w' ∧ C w')) : GoodOp P ops specs a0 C E o s :=
 good_call hf hname hb ho hg fun a w hC _ => by simpa using h w hC
theorem good_call1 {f : FuncId} {x : Operand} {ats : Array TypeId} {fn : Func} {cd : Code} (hf : P.funcs[f]? = some fn) (hname : (fn.name == "runtime.NumGoroutine") = false) (hb : fn.body = some cd)
  (ho : o.op = .call { callee := .value (.func f), args := #[x], argTypes := ats }) (hg : guardV ops specs a0 o = some true)
  (h : ∀ (u : Value) (w : World), C w → (argS ops specs a0 x).ok u w → Calls P f #[u] w (fun e w' => ∃ v, e = .returned v ∧ s.ok v w' ∧ E w w' ∧ C w')) : GoodOp P ops specs a0 C E o s :=
 good_call hf hname hb ho hg fun a w hC hs => by simpa using h _ w hC (hs x (by simp))
theorem good_call2 {f : FuncId} {x y : Operand} {ats : Array TypeId} {fn : Func} {cd : Code} (hf : P.funcs[f]? = some fn) (hname : (fn.name == "runtime.NumGoroutine") = false) (hb : fn.body = some cd)
  (ho : o.op = .call { callee := .value (.func f), args := #[x, y], argTypes := ats }) (hg : guardV ops specs a0 o = some true)
  (h : ∀ (u u2 : Value) (w : World), C w → (argS ops specs a0 x).ok u w → (argS ops specs a0 y).ok u2 w → Calls P f #[u, u2] w (fun e w' => ∃ v, e = .returned v ∧ s.ok v w' ∧ E w w' ∧ C w')) : GoodOp P ops specs a0 C E o s :=
 good_call hf hname hb ho hg fun a w hC hs => by simpa using h _ _ w hC (hs x (by simp)) (hs y (by simp))
theorem good_call3 {f : FuncId} {x y z : Operand} {ats : Array TypeId} {fn : Func} {cd : Code} (hf : P.funcs[f]? = some fn) (hname : (fn.name == "runtime.NumGoroutine") = false) (hb : fn.body = some cd)
  (ho : o.op = .call { callee := .value (.func f), args := #[x, y, z], argTypes := ats }) (hg : guardV ops specs a0 o = some true)
  (h : ∀ (u u2 u3 : Value) (w : World), C w → (argS ops specs a0 x).ok u w → (argS ops specs a0 y).ok u2 w → (argS ops specs a0 z).ok u3 w → Calls P f #[u, u2, u3] w (fun e w' => ∃ v, e = .returned v ∧ s.ok v w' ∧ E w w' ∧ C w')) : GoodOp P ops specs a0 C E o s :=
 good_call hf hname hb ho hg fun a w hC hs => by simpa using h _ _ _ w hC (hs x (by simp)) (hs y (by simp)) (hs z (by simp))
end
end Go.Proofs.YtbdjccmlgdfapaaGreat.Rg
