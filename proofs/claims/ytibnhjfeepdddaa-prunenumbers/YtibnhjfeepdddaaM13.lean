/-
  The contracts of sum's Crc and Fnv and of the document's own answers to both, over the program. A region whose order is open up to a tail that comes last, one operation behind the other (a store): the head by the sentences of its operations (text Region), the tail as the walk takes it. And: an index, a load. The document's own bits (layer 9): the four of a text, over the program.
-/
import Derived.Test.YtibnhjfeepdddaaM12
import Derived.Test.YtibnhjfeepdddaaM04
import Derived.StillTail
import Derived.Test.YtibnhjfeepdddaaM08
import Derived.Test.YtibnhjfeepdddaaM05
namespace Go.Proofs.Ytibnhjfeepdddaa
open Go.RowKit
set_option linter.unusedVariables false

theorem bstr_at {s : List UInt8} {k : Nat} (h : k < (str s).size) (h2 : k < s.length) : (str s)[k].toNat = s[k].toNat := by
 show ((str s).data[k]'h).toNat = _
 simp [str]
theorem fnv_at {s : List UInt8} {k : Nat} (h : k < s.length) : S.fnv (s.take (k + 1)) = S.fnvStep (S.fnv (s.take k)) s[k] := by
 rw [List.take_succ_eq_append_getElem h, S.fnv_snoc]
theorem fnv_next {s : List UInt8} {k : Nat} (h : k < (str s).size) (h2 : k < s.length) :
  IntKind.u64.wrap (bits BinOp.xor IntKind.u64 (S.fnv (List.take k s) : Int) (IntKind.u64.wrap ((str s)[k].toNat : Int)) * 1099511628211) = ((S.fnv (s.take (k + 1)) : Nat) : Int) := by
 have hx := s[k].toNat_lt
 rw [fnv_at h2, bstr_at h h2, I.w64 ((s[k].toNat : Int)), Int.emod_eq_of_lt (by omega) (by omega), I.w64, I.fnv_num _ _ s[k] (S.fnv_lt _) rfl]

set_option maxRecDepth 100000 in
theorem fnv_any (s : List UInt8) (w : World) (hs : s.length ≤ 9223372036854775807) :
  Calls Try.prog 46 #[.string (str s)] w fun e w' => e = .returned (.int .u64 (S.fnv s)) ∧ w' = w := by
 have hss : (str s).size = s.length := str_size s
 obtain ⟨R, hR⟩ : ∃ R, R = S.fnv s := ⟨_, rfl⟩
 have HR : Hid (R = S.fnv s) := hR
 rw [← hR]
 clear hR
 go_enter Try.func46, Try.ntmps46
 go_wp2
 go_loop [3, 7] (fun v i => ∃ k : Nat, k ≤ s.length ∧ i = .int .i64 k ∧ v = .int .u64 (S.fnv (s.take k))) (fun _ i => s.length - (intOf i).toNat)
 case atStart => exact ⟨0, by omega, rfl, rfl⟩
 case round =>
  obtain ⟨k, hk, rfl, rfl⟩ := hrel
  by_cases hlt : k < s.length
  ·go_wp2
   go_round
   case rel => exact ⟨k + 1, by omega, by go_num, I.int_num (fnv_next (by omega) hlt)⟩
   case measure => simp [intOf]; omega
  ·obtain rfl : k = s.length := by omega
   go_wp2
   go_ret
   exact ⟨I.ret_int (by rw [HR.out]), rfl⟩

set_option maxRecDepth 100000 in
theorem rfnv_any (s : List UInt8) (w : World) (hs : s.length ≤ 9223372036854775807) :
  Calls Try.prog 86 #[.string (str s)] w fun e w' => e = .returned (.int .u64 (S.fnv s)) ∧ w' = w := by
 have hss : (str s).size = s.length := str_size s
 obtain ⟨R, hR⟩ : ∃ R, R = S.fnv s := ⟨_, rfl⟩
 have HR : Hid (R = S.fnv s) := hR
 rw [← hR]
 clear hR
 go_enter Try.func86, Try.ntmps86
 go_wp2
 go_loop [3, 4] (fun v i => ∃ k : Nat, k ≤ s.length ∧ i = .int .i64 k ∧ v = .int .u64 (S.fnv (s.take k))) (fun _ i => s.length - (intOf i).toNat)
 case atStart => exact ⟨0, by omega, rfl, rfl⟩
 case round =>
  obtain ⟨k, hk, rfl, rfl⟩ := hrel
  by_cases hlt : k < s.length
  ·go_wp2
   go_round
   case rel => exact ⟨k + 1, by omega, by go_num, I.int_num (fnv_next (by omega) hlt)⟩
   case measure => simp [intOf]; omega
  ·obtain rfl : k = s.length := by omega
   go_wp2
   go_ret
   exact ⟨I.ret_int (by rw [HR.out]), rfl⟩

end Go.Proofs.Ytibnhjfeepdddaa
namespace Go.Proofs.Ytibnhjfeepdddaa.Rg
open Go Go.RowKit

/-- What is listed when the head is done. -/
def headDone (m n : Nat) : Array Bool := ((List.range m).map fun j => decide (j < n)).toArray

theorem cnt_none : ∀ n, cnt n (fun _ => false) = 0
 | 0 => rfl
 | n + 1 => by simp only [cnt]; rw [cnt_none n]; rfl

section
variable {P : Program} {ops : Array Oper} {specs : List Spec} {a0 : Act} {C : World → Prop} {E : World → World → Prop}

theorem headDone_of {listed : Array Bool} {n : Nat} (hsz : listed.size = ops.size) (h1 : ∀ j, j < n → listed.getD j true = true) (h2 : ∀ t, n ≤ t → t < ops.size → listed.getD t true = false) : listed = headDone ops.size n := by
 unfold headDone
 apply Array.ext
 ·simp [hsz]
 ·intro i hi hi'
  have hi2 : i < ops.size := by omega
  simp only [List.getElem_toArray, List.getElem_map, List.getElem_range]
  by_cases h : i < n
  ·have := h1 i h
   simp [hi] at this
   simp [this, h]
  ·have := h2 i (by omega) hi2
   simp [hi] at this
   simp [this, h]

/-- The guards of the head's operations stand in the head. -/
def guardsIn (l : List Oper) : Bool := l.all fun o => match o.guard with | none => true | some (g, _) => decide (g < l.length)
theorem wanted_same {hops : Array Oper} {o : Oper} {n : Nat} (tmps : Array Value) (hg : ∀ g b, o.guard = some (g, b) → g < n) (hsub : ∀ i, i < n → hops[i]? = ops[i]?) : Region.wanted o (yielded ops tmps) = Region.wanted o (yielded hops tmps) := by
 unfold Region.wanted
 split
 ·rfl
 ·rename_i j want h
  have := hsub j (hg j want h)
  unfold yielded
  rw [this]
theorem Inv.sees' {hops : Array Oper} {listed : Array Bool} {a : Act} {w : World} {n i : Nat} {o : Oper} (h : Inv hops specs a0 C listed a w) (hs : sound hops n = true) (ho : hops[i]? = some o) (hall : ∀ e ∈ o.after, Region.binds .any e = true → listed.getD e.on false = true) :
  ∀ t ∈ o.looksAt hops, (slotS hops specs a0 t).ok (a.eval (.tmp t)) w := by
 intro t ht
 unfold slotS
 cases hw : writer hops t with
 | none =>
  simp only [Spec.ok, Act.eval]
  have := h.slot t (by simp [hw])
  simp [Array.getD_eq_getD_getElem?, this]
 | some j =>
  obtain ⟨e, he, hb, hj⟩ := (sound_at hs ho).2.1 t ht j hw
  have hl := hall e he hb
  rw [hj] at hl
  obtain ⟨v, hv, hk⟩ := h.done t j hw hl
  simp only [Act.eval, Array.getD_eq_getD_getElem?, hv]
  exact hk
theorem head_listed {hops : Array Oper} {listed : Array Bool} {m n : Nat} (hs : sound hops m = true) (hsub : ∀ i, i < n → hops[i]? = ops[i]?) (hn : n ≤ ops.size) (hr : Region.ready .any ops listed = []) (hsz : listed.size = ops.size) : ∀ j, j < n → listed.getD j false = true := by
 intro j
 induction j using Nat.strongRecOn with
 | _ j ih =>
  intro hj
  have hj2 : j < ops.size := by omega
  cases hl : listed.getD j false with
  | true => rfl
  | false =>
   have ho : ops[j]? = some ops[j] := Array.getElem?_eq_getElem hj2
   have : j ∈ Region.ready .any ops listed := by
    rw [mem_ready]
    refine ⟨?_, ops[j], ho, fun e he hb => ?_⟩
    ·have hj' : j < listed.size := by omega
     simp [hj'] at hl ⊢
     exact hl
    ·have := (sound_at hs (i := j) (o := ops[j]) (by rw [hsub j hj]; exact ho)).1 e he hb
     exact ih e.on this (by omega)
   rw [hr] at this
   cases this

theorem rows_tail {Q : Exit → Act → World → Prop} {n : Nat} {t : List Oper} {hops : Array Oper} (hs : sound hops a0.tmps.size = true) (hsub : ∀ i, i < n → hops[i]? = ops[i]?) (hgi : ∀ i o g b, i < n → ops[i]? = some o → o.guard = some (g, b) → g < n)
  (hst : ∀ (j : Nat) (v : Value) (w w' : World), ((specs[j]?).getD (.inl undef)).ok v w → E w w' → ((specs[j]?).getD (.inl undef)).ok v w') (hrefl : ∀ w, E w w)
  (hsink : Region.sinkB .any ops n = true) (hchain : Region.chainB .any ops n = true) (hn : n < ops.size)
  (ht : ∀ j, t[j]? = ops[n + j]?) (hseq : Region.seqB .any ops t.length n (headDone ops.size n) = true)
  (hG : ∀ (i : Nat) (o : Oper), i < n → ops[i]? = some o → GoodOp P hops specs a0 C E o ((specs[i]?).getD (.inl undef)))
  (hF : ∀ (listed : Array Bool) (a : Act) (w : World), Inv hops specs a0 C listed a w → (∀ j, j < n → listed.getD j false = true) → wpList P ops Q t a w) :
  ∀ (fuel : Nat) (listed : Array Bool) (a : Act) (w : World), Inv hops specs a0 C listed a w → HeadInv .any ops n listed → cnt n (fun j => !listed.getD j true) = fuel → wpAny P .any ops Q (fuel + t.length) listed a w
 | 0, listed, a, w, h, hh, hc => by
  rw [Nat.zero_add]
  have h1 : ∀ j, j < n → listed.getD j true = true := fun j hj => by
   have := cnt_zero _ _ hc j hj
   simpa using this
  have h1' : ∀ j, j < n → listed.getD j false = true := fun j hj => by
   have := h1 j hj
   have hj' : j < listed.size := by rw [hh.size]; omega
   simp [hj'] at this ⊢
   exact this
  have he := headDone_of hh.size h1 hh.tail
  exact wpAny_of_seq t n listed a w ht (by rw [he]; exact hseq) (hF listed a w h h1')
 | fuel + 1, listed, a, w, h, hh, hc => by
  have hex : ∃ i, i < n ∧ listed.getD i true = false := by
   refine Classical.byContradiction fun hno => ?_
   have : cnt n (fun j => !listed.getD j true) = 0 := by
    rw [cnt_same n _ (fun _ => false) (fun j hj => ?_)]
    ·exact cnt_none n
    ·cases hl : listed.getD j true with
     | true => rfl
     | false => exact absurd ⟨j, hj, hl⟩ hno
   omega
  obtain ⟨i0, hi0, hun⟩ := hex
  rw [show fuel + 1 + t.length = (fuel + t.length) + 1 by omega]
  refine ⟨fun hr => ?_, fun i hi => ?_⟩
  ·have := head_listed hs hsub (Nat.le_of_lt hn) hr hh.size i0 hi0
   rw [getD_both hun] at this
   cases this
  ·have hin : i < n := by
    rcases Nat.lt_or_ge i n with h' | h'
    ·exact h'
    ·exact absurd hi (tail_waits hsink hchain hn hh _ i0 rfl hi0 hun i h')
   obtain ⟨h0, o, ho, hall⟩ := mem_ready.1 hi
   have hi2 : i < listed.size := by rw [hh.size]; omega
   have hho : hops[i]? = some o := by rw [hsub i hin]; exact ho
   have hnext : ∀ (v : Value) (w' : World), ((specs[i]?).getD (.inl undef)).ok v w' → E w w' → C w' → wpAny P .any ops Q (fuel + t.length) (listed.setIfInBounds i true) (a.put o.dst v) w' := by
    intro v w' hv hE hC
    refine rows_tail hs hsub hgi hst hrefl hsink hchain hn ht hseq hG hF fuel _ _ _ (h.step hs hho hi2 hst hE hC hv) (hh.set hi hin) ?_
    have hstep := cnt_step n (fun j => !listed.getD j true) (fun j => !(listed.setIfInBounds i true).getD j true) i hin (by simp [h0]) (by simp [hi2]) (fun j hj => by rw [getD_set_ne true (Ne.symm hj)])
    omega
   have hg := hG i o hin ho Q a w h.cls (h.sees' hs hho hall)
   rw [← wanted_same (ops := ops) (hops := hops) (n := n) a.tmps (fun g b => hgi i o g b hin ho) hsub] at hg
   unfold wpOp
   simp only [ho]
   split
   ·rename_i hw
    refine .inl (Oper.wp_mono (fun a' w' hk => ?_) (hg.1 hw))
    obtain ⟨v, rfl, hv, hE, hC⟩ := hk
    exact hnext v w' hv hE hC
   ·rename_i hw
    exact hnext undef w (hg.2 (by simpa using hw)) (hrefl w) h.cls

/-- **A REGION WHOSE ORDER IS OPEN UP TO ITS TAIL: THE HEAD BY ITS SENTENCES, THE TAIL IN ITS ORDER.** (The tail may write what the head reads.) -/
theorem wp_rows_tail {id : Nat} {Q : Exit → Act → World → Prop} {w : World} (l t : List Oper) {lt : List Oper} (hlt : lt = l ++ t) (specs : List Spec) (C : World → Prop) (E : World → World → Prop) (n : Nat) (hm : P.follows .mixedOrders = true)
  (hn : a0.tmps.size = n) (hsg : (sound l.toArray n && guardsIn l) = true) (hsink : Region.sinkB .any lt.toArray l.length = true) (hchain : Region.chainB .any lt.toArray l.length = true)
  (hpos : 0 < t.length) (hseq : Region.seqB .any lt.toArray t.length l.length (headDone lt.toArray.size l.length) = true) (hst : Stands E specs) (hrefl : ∀ w, E w w) (hC : C w.drew)
  (hG : Goods P l.toArray specs a0 C E l specs) (hF : ∀ w', C w' → later w' (fun a' => wpList P lt.toArray Q t a' w') l specs a0) : (Code.region id lt.toArray true).wp P Q a0 w := by
 subst hn
 simp only [Bool.and_eq_true] at hsg
 obtain ⟨hs, hgs⟩ := hsg
 have hsize : lt.toArray.size = l.length + t.length := by simp [hlt]
 have hat : ∀ i, i < l.length → lt.toArray[i]? = l[i]? := fun i hi => by simp [hlt, List.getElem?_append_left hi]
 refine wp_region_any hm ?_
 have hcnt : cnt l.length (fun j => !(Array.replicate lt.toArray.size false).getD j true) = l.length := cnt_all _ _ (fun j hj => by
  have : j < lt.toArray.size := by omega
  simp at this
  simp [this])
 have hinv : HeadInv .any lt.toArray l.length (Array.replicate lt.toArray.size false) := by
  refine ⟨by simp, fun j oj _ hl => ?_, fun t' h1 h2 => ?_⟩
  ·rw [getD_replicate_false] at hl; cases hl
  ·simp at h2; simp [h2]
 have := rows_tail (P := P) (ops := lt.toArray) (hops := l.toArray) (specs := specs) (a0 := a0) (C := C) (E := E) (Q := Q) (n := l.length) (t := t) hs (fun i hi => by rw [hat i hi]; simp) ?hgi (fun j v w w' => stands_at specs hst j v w w') hrefl hsink hchain (by omega)
  (fun j => by rw [hlt]; simp [List.getElem?_append_right]) hseq ?hgood ?hfin l.length (Array.replicate lt.toArray.size false) a0 w.drew ?hst0 hinv hcnt
 case hgi =>
  intro i o g b hi ho hgd
  rw [hat i hi] at ho
  have := List.all_eq_true.1 hgs o (List.mem_of_getElem? ho)
  rw [hgd] at this
  simpa using this
 case hgood =>
  intro i o hi ho
  rw [hat i hi] at ho
  obtain ⟨s, h1, h2⟩ := goods_at l specs hG i o ho
  rw [h1]
  exact h2
 case hfin =>
  intro listed a w' hI hall
  have hwr : ∀ o ∈ l, ∀ d, o.dst = some d → ∃ j, j < l.length ∧ writer l.toArray d = some j := fun o ho d hd => by
   obtain ⟨j, hj⟩ := List.getElem?_of_mem ho
   have hjl := (List.getElem?_eq_some_iff.1 hj).1
   exact ⟨j, hjl, ((sound_at hs (i := j) (o := o) (by simpa using hj)).2.2 d hd).2⟩
  have hfill : fill (fun t => a.tmps.getD t undef) l a0 = a := by
   have hz := fill_size (fun t => a.tmps.getD t undef) l a0
   refine act_ext (hz.2.trans hI.defers.symm) (hz.1.trans hI.size.symm) fun d hd => ?_
   rw [hz.1] at hd
   by_cases hw : ∃ o ∈ l, o.dst = some d
   ·rw [fill_same _ l a0 d hd hw]
    obtain ⟨o, ho, hod⟩ := hw
    obtain ⟨j, hj, hwj⟩ := hwr o ho d hod
    obtain ⟨v, hv, _⟩ := hI.done d j hwj (hall j hj)
    simp [hv, Array.getD_eq_getD_getElem?]
   ·rw [fill_other _ l a0 d (fun o ho hod => hw ⟨o, ho, hod⟩)]
    refine (hI.slot d fun j hj => ?_).symm
    obtain ⟨o, ho, hod⟩ := writer_some hj
    exact absurd ⟨o, List.mem_of_getElem? (by simpa using ho), hod⟩ hw
  have h := later_fill (w := w') (K := fun a' => wpList P lt.toArray Q t a' w') (fun t => a.tmps.getD t undef) l specs a0 (hF w' hI.cls) (fun j o d s ho hd hss => by
   have hjl := (List.getElem?_eq_some_iff.1 ho).1
   have hw := ((sound_at hs (i := j) (o := o) (by simpa using ho)).2.2 d hd).2
   obtain ⟨v, hv, hk⟩ := hI.done d j hw (hall j hjl)
   rw [hss] at hk
   simpa [hv, Array.getD_eq_getD_getElem?] using hk)
  rwa [hfill] at h
 case hst0 => exact ⟨hC, rfl, rfl, fun t _ => rfl, fun t j _ hl => by rw [getD_replicate_false] at hl; cases hl⟩
 rw [hsize] at this ⊢
 exact this

variable {o : Oper} {s : Spec}
theorem good_index {t : TypeId} {x i : Operand} {vx vi v : Value} (hrefl : ∀ w, E w w) (ho : o.op = .indexAddr t x i) (hg : guardV ops specs a0 o = some true)
  (hx : argS ops specs a0 x = .inl vx) (hi : argS ops specs a0 i = .inl vi) (h : ∀ w, C w → (Instr.indexAt t vx vi).run P w = .ok v w) : GoodOp P ops specs a0 C E o (.inl v) :=
 good_val hrefl hg fun a w hC hh => by
  have h1 := hh x (by rw [ho]; simp [Op.operands])
  have h2 := hh i (by rw [ho]; simp [Op.operands])
  rw [hx] at h1
  rw [hi] at h2
  simp only [Spec.ok] at h1 h2
  refine ⟨v, ?_, rfl⟩
  unfold execOp
  rw [ho]
  simp only [h1, h2, Sem.run_bind, Result.andThen, h w hC, Sem.run_pure]
theorem good_load {t : TypeId} {x : Operand} {vx v : Value} (hrefl : ∀ w, E w w) (ho : o.op = .load t x) (hg : guardV ops specs a0 o = some true)
  (hx : argS ops specs a0 x = .inl vx) (h : ∀ w, C w → (Instr.loadAt t vx).run P w = .ok v w) : GoodOp P ops specs a0 C E o (.inl v) :=
 good_val hrefl hg fun a w hC hh => by
  have h1 := hh x (by rw [ho]; simp [Op.operands])
  rw [hx] at h1
  simp only [Spec.ok] at h1
  refine ⟨v, ?_, rfl⟩
  unfold execOp
  rw [ho]
  simp only [h1, Sem.run_bind, Result.andThen, h w hC, Sem.run_pure]
end
end Go.Proofs.Ytibnhjfeepdddaa.Rg
namespace Go.Proofs.Ytibnhjfeepdddaa
open Go.RowKit
set_option linter.unusedVariables false
set_option linter.unusedSimpArgs false
theorem I.and32 (n : Int) (h : 0 ≤ n) (h2 : n ≤ 18446744073709551615) : bits .and .u64 n 4294967295 = n % 4294967296 :=
 bits_mask .u64 64 (by decide) I.wraps64 32 (by decide) n h (by omega)
theorem I.or1 (n : Nat) (h2 : n < 4294967296) : bits .or .u64 (n : Int) 1 = ((if n % 2 = 0 then n + 1 else n : Nat) : Int) := by
 rw [show (1 : Int) = ((1 : Nat) : Int) from rfl, (bits_nat .u64 64 (by decide) I.wraps64 n 1 (by omega) (by omega)).2]
 congr 1
 have h := Nat.two_pow_add_eq_or_of_lt (i := 1) (b := 1) (by omega) (n / 2)
 by_cases e : n % 2 = 0
 ·rw [if_pos e]
  have h0 : 2 ^ 1 * (n / 2) = n := by omega
  rw [h0] at h
  exact h.symm
 ·rw [if_neg e]
  have h0 : 2 ^ 1 * (n / 2) + 1 = n := by omega
  rw [h0] at h
  calc n ||| 1 = (2 ^ 1 * (n / 2) ||| 1) ||| 1 := by rw [← h]
   _ = 2 ^ 1 * (n / 2) ||| (1 ||| 1) := Nat.or_assoc _ _ _
   _ = n := by rw [Nat.or_self]; exact h.symm
/-- The four, as a value; as the places of an array. -/
def qs (s : List UInt8) (n : Nat) : List Int := [(Fl.pos s n 0 : Int), (Fl.pos s n 1 : Int), (Fl.pos s n 2 : Int), (Fl.pos s n 3 : Int)]
def qv (s : List UInt8) (n : Nat) : Value := .agg #[.int .i64 (Fl.pos s n 0 : Int), .int .i64 (Fl.pos s n 1 : Int), .int .i64 (Fl.pos s n 2 : Int), .int .i64 (Fl.pos s n 3 : Int)]
abbrev Four (w : World) (g : Nat) (L : List Int) : Prop := RowAt z64 108 w g L
theorem Four.cells {w : World} {g : Nat} {a b c d : Int} (h : Four w g [a, b, c, d]) : w.cell? ⟨g, 0, none⟩ = some (.int .i64 a) ∧ w.cell? ⟨g, 1, none⟩ = some (.int .i64 b) ∧ w.cell? ⟨g, 2, none⟩ = some (.int .i64 c) ∧ w.cell? ⟨g, 3, none⟩ = some (.int .i64 d) :=
 ⟨RowAt.cell (k := 0) h (by simp), RowAt.cell (k := 1) h (by simp), RowAt.cell (k := 2) h (by simp), RowAt.cell (k := 3) h (by simp)⟩
theorem Four.fro {w : World} {g : Nat} {L : List Int} (h : Four w g L) : w.frozen? ⟨g, 0, none⟩ = false ∧ w.frozen? ⟨g, 1, none⟩ = false ∧ w.frozen? ⟨g, 2, none⟩ = false ∧ w.frozen? ⟨g, 3, none⟩ = false :=
 ⟨RowAt.frozen 0 h, RowAt.frozen 1 h, RowAt.frozen 2 h, RowAt.frozen 3 h⟩
set_option maxHeartbeats 1000000 in
theorem load_four {w9 : World} {g : Nat} {a b c d : Int} (h : Four w9 g [a, b, c, d]) : (loadVar 108 ⟨g, 0, none⟩).run Try.prog w9 = .ok (.agg #[.int .i64 a, .int .i64 b, .int .i64 c, .int .i64 d]) w9 := by
 obtain ⟨c0, c1, c2, c3⟩ := Four.cells h
 clear h
 simp [go_sem, c0, c1, c2, c3]
theorem res_four {fn : Func} {tmps : Array Value} {w9 : World} {g i : Nat} {a b c d : Int} (hfn : fn.results = #[ResultVar.cell i 108]) (ht : tmps.getD i undef = .pointer (some ⟨g, 0, none⟩)) (h : Four w9 g [a, b, c, d]) : (results fn tmps).run Try.prog w9 = .ok (.agg #[.int .i64 a, .int .i64 b, .int .i64 c, .int .i64 d]) w9 := by
 have hl := load_four h
 have ht' : tmps[i]?.getD undef = .pointer (some ⟨g, 0, none⟩) := by simpa using ht
 simp [results, hfn, ht', asAddr, Sem.run_bind, Result.andThen, hl]
theorem pos_form (s : List UInt8) (n i : Nat) (A B : Nat) (hA : A = S.fnv s % 4294967296) (hB : B = Fl.odd (S.fnv s)) : (((A : Int) + (i : Int) * (B : Int)) % (n : Int)) = (Fl.pos s n i : Int) := by
 subst hA; subst hB
 unfold Fl.pos
 simp
set_option maxRecDepth 100000 in
set_option maxHeartbeats 2000000 in
theorem rbits_is (s : List UInt8) (n : Nat) (w : World) (hs : s.length ≤ 9223372036854775807) (hn1 : 1 ≤ n) (hn2 : n ≤ 65536) :
  Calls Try.prog 63 #[.string (str s), .int .i64 n] w fun e w' => e = .returned (qv s n) ∧ Ex w w' := by
 have hf := S.fnv_lt s
 obtain ⟨h, hh⟩ : ∃ h, S.fnv s = h := ⟨_, rfl⟩
 rw [hh] at hf
 have HH : Hid (S.fnv s = h) := hh
 have a1 := I.and32 (h : Int) (by omega) (by omega)
 obtain ⟨A, hA⟩ : ∃ A, A = h % 4294967296 := ⟨_, rfl⟩
 have hAi : (h : Int) % 4294967296 = (A : Int) := by omega
 rw [hAi] at a1
 obtain ⟨q, hq⟩ : ∃ q, q = h / 4294967296 := ⟨_, rfl⟩
 have hqi : (h : Int) / 4294967296 = (q : Int) := by omega
 obtain ⟨B, hB⟩ : ∃ B, B = Fl.odd h := ⟨_, rfl⟩
 have hBl : B < 4294967296 := by rw [hB]; exact Fl.odd_lt hf
 have o1 : bits .or .u64 (q : Int) 1 = (B : Int) := by rw [I.or1 q (by omega), hB, hq]; rfl
 have hAl : A < 4294967296 := by omega
 obtain ⟨p0, hp0⟩ : ∃ p, Fl.pos s n 0 = p := ⟨_, rfl⟩
 have P0 : (A : Int) % (n : Int) = (p0 : Int) := by rw [← hp0, ← pos_form s n 0 A B (by rw [hA, hh]) (by rw [hB, hh])]; simp
 obtain ⟨p1, hp1⟩ : ∃ p, Fl.pos s n 1 = p := ⟨_, rfl⟩
 have P1 : ((A : Int) + (B : Int)) % (n : Int) = (p1 : Int) := by rw [← hp1, ← pos_form s n 1 A B (by rw [hA, hh]) (by rw [hB, hh])]; simp
 obtain ⟨p2, hp2⟩ : ∃ p, Fl.pos s n 2 = p := ⟨_, rfl⟩
 have P2 : ((A : Int) + 2 * (B : Int)) % (n : Int) = (p2 : Int) := by rw [← hp2, ← pos_form s n 2 A B (by rw [hA, hh]) (by rw [hB, hh])]; simp
 obtain ⟨p3, hp3⟩ : ∃ p, Fl.pos s n 3 = p := ⟨_, rfl⟩
 have P3 : ((A : Int) + 3 * (B : Int)) % (n : Int) = (p3 : Int) := by rw [← hp3, ← pos_form s n 3 A B (by rw [hA, hh]) (by rw [hB, hh])]; simp
 have hz : ((n : Int) == 0) = false := by simp; omega
 have l0 : p0 < n := by rw [← hp0]; exact Fl.pos_lt s (n := n) (by omega) 0
 have l1 : p1 < n := by rw [← hp1]; exact Fl.pos_lt s (n := n) (by omega) 1
 have l2 : p2 < n := by rw [← hp2]; exact Fl.pos_lt s (n := n) (by omega) 2
 have l3 : p3 < n := by rw [← hp3]; exact Fl.pos_lt s (n := n) (by omega) 3
 clear hA hB hq hh
 unfold qv
 rw [hp0, hp1, hp2, hp3]
 clear hp0 hp1 hp2 hp3
 go_enter Try.func63, Try.ntmps63
 go_wp2_with fail
 refine (rfnv_any s _ hs).mono ?_
 rintro e wq ⟨rfl, hw⟩
 have hw' := hw.symm; clear hw; subst hw'
 rw [HH.out]
 go_wp2_with fail
 go_loopw [9] (fun i wr => Hid (Four wr w.heap.size [0, 0, 0, 0]) ∧ Hid (Below w.heap.size w wr) ∧ ((i = .int .u64 0 ∧ Hid (Four wr (w.heap.size + 1) [0, 0, 0, 0])) ∨ (i = .int .u64 1 ∧ Hid (Four wr (w.heap.size + 1) [(p0 : Int), 0, 0, 0])) ∨ (i = .int .u64 2 ∧ Hid (Four wr (w.heap.size + 1) [(p0 : Int), (p1 : Int), 0, 0])) ∨ (i = .int .u64 3 ∧ Hid (Four wr (w.heap.size + 1) [(p0 : Int), (p1 : Int), (p2 : Int), 0])) ∨ (i = .int .u64 4 ∧ Hid (Four wr (w.heap.size + 1) [(p0 : Int), (p1 : Int), (p2 : Int), (p3 : Int)])))) (fun i _ => 4 - (intOf i).toNat)
 case atStart => exact ⟨RowAt.below (heap_alloc_new w _ : Four _ _ [0, 0, 0, 0]) ((Below.refl _ _).alloc (Nat.le_refl _) _), ((Below.refl _ _).alloc (Nat.le_refl _) _).alloc (by simp) _, .inl ⟨rfl, (by have h := heap_alloc_new (w.alloc (Obj.cells #[Value.int IntKind.i64 0, Value.int IntKind.i64 0, Value.int IntKind.i64 0, Value.int IntKind.i64 0] 108)) (Obj.cells #[Value.int IntKind.i64 0, Value.int IntKind.i64 0, Value.int IntKind.i64 0, Value.int IntKind.i64 0] 108); rw [show (w.alloc (Obj.cells #[Value.int IntKind.i64 0, Value.int IntKind.i64 0, Value.int IntKind.i64 0, Value.int IntKind.i64 0] 108)).heap.size = w.heap.size + 1 from by simp] at h; exact h : Four _ (w.heap.size + 1) [0, 0, 0, 0])⟩⟩
 case round =>
  obtain ⟨H4, HBl, hrel⟩ := hrel
  rcases hrel with ⟨rfl, H8⟩ | ⟨rfl, H8⟩ | ⟨rfl, H8⟩ | ⟨rfl, H8⟩ | ⟨rfl, H8⟩
  ·obtain ⟨c0, c1, c2, c3⟩ := Four.cells H8.out
   obtain ⟨f0, f1, f2, f3⟩ := Four.fro H8.out
   go_wp2_with fail
   go_roundw
   case rel => exact ⟨RowAt.other H4.out (by omega), Below.setCell HBl.out (p := ⟨w.heap.size + 1, 0, none⟩) (by simp) _, .inr (.inl ⟨rfl, RowAt.set (k := 0) H8.out (p0 : Int) rfl⟩)⟩
   case measure => simp [intOf]
  ·obtain ⟨c0, c1, c2, c3⟩ := Four.cells H8.out
   obtain ⟨f0, f1, f2, f3⟩ := Four.fro H8.out
   go_wp2_with fail
   go_roundw
   case rel => exact ⟨RowAt.other H4.out (by omega), Below.setCell HBl.out (p := ⟨w.heap.size + 1, 1, none⟩) (by simp) _, .inr (.inr (.inl ⟨rfl, RowAt.set (k := 1) H8.out (p1 : Int) rfl⟩))⟩
   case measure => simp [intOf]
  ·obtain ⟨c0, c1, c2, c3⟩ := Four.cells H8.out
   obtain ⟨f0, f1, f2, f3⟩ := Four.fro H8.out
   go_wp2_with fail
   go_roundw
   case rel => exact ⟨RowAt.other H4.out (by omega), Below.setCell HBl.out (p := ⟨w.heap.size + 1, 2, none⟩) (by simp) _, .inr (.inr (.inr (.inl ⟨rfl, RowAt.set (k := 2) H8.out (p2 : Int) rfl⟩)))⟩
   case measure => simp [intOf]
  ·obtain ⟨c0, c1, c2, c3⟩ := Four.cells H8.out
   obtain ⟨f0, f1, f2, f3⟩ := Four.fro H8.out
   go_wp2_with fail
   go_roundw
   case rel => exact ⟨RowAt.other H4.out (by omega), Below.setCell HBl.out (p := ⟨w.heap.size + 1, 3, none⟩) (by simp) _, .inr (.inr (.inr (.inr (⟨rfl, RowAt.set (k := 3) H8.out (p3 : Int) rfl⟩))))⟩
   case measure => simp [intOf]
  ·obtain ⟨c0, c1, c2, c3⟩ := Four.cells H8.out
   obtain ⟨d0, d1, d2, d3⟩ := Four.cells H4.out
   obtain ⟨f0, f1, f2, f3⟩ := Four.fro H4.out
   go_wp2_with fail
   refine bodyPost_ret (res_four (g := w.heap.size) (a := p0) (b := p1) (c := p2) (d := p3) rfl rfl ?_) rfl ⟨rfl, ?_⟩
   ·exact RowAt.set (k := 3) (RowAt.set (k := 2) (RowAt.set (k := 1) (RowAt.set (k := 0) H4.out (p0 : Int) rfl) (p1 : Int) rfl) (p2 : Int) rfl) (p3 : Int) rfl
   ·exact Below.setCell (Below.setCell (Below.setCell (Below.setCell HBl.out (p := ⟨w.heap.size, 0, none⟩) (by simp) _) (p := ⟨w.heap.size, 1, none⟩) (by simp) _) (p := ⟨w.heap.size, 2, none⟩) (by simp) _) (p := ⟨w.heap.size, 3, none⟩) (by simp) _
end Go.Proofs.Ytibnhjfeepdddaa
