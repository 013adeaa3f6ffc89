/-
  A region whose order is open up to a tail that comes last, one operation behind the other (a store): the head by the sentences of its operations (text Region), the tail as the walk takes it. And: an index, a load. The contracts of package varint (Zig, Zag, Get, Put) over the program.
-/
import Derived.Test.YtbdjccmlgdfapaaGreatSteps
import Derived.StillTail
import Derived.Test.YtbdjccmlgdfapaaGreatKinds
namespace Go.Proofs.YtbdjccmlgdfapaaGreat.Rg
open Go Go.RowKit

/-- What is listed when the head is done. -/
def headDone (m n : Nat) : Array Bool := ((List.range m).map fun j => decide (j < n)).toArray

theorem cnt_none : ∀ n, cnt n (fun _ => false) = 0
 | 0 => rfl
 | n + 1 => by simp only [cnt]; rw [cnt_none n]; rfl

section
variable {P : Program} {ops : Array Oper} {specs : List Spec} {a0 : Act} {C : World → Prop} {E : World → World → Prop}

theorem headDone_of {listed : Array Bool} {n : Nat} (hsz : listed.size = ops.size) (h1 : ∀ j, j < n → listed.getD j true = true) (h2 : ∀ t, n ≤ t → t < ops.size → listed.getD t true = false) : listed = headDone ops.size n := by
 unfold headDone
 apply Array.ext
 ·simp [hsz]
 ·intro i hi hi'
  have hi2 : i < ops.size := by omega
  simp only [List.getElem_toArray, List.getElem_map, List.getElem_range]
  by_cases h : i < n
  ·have := h1 i h
   simp [hi] at this
   simp [this, h]
  ·have := h2 i (by omega) hi2
   simp [hi] at this
   simp [this, h]

/-- The guards of the head's operations stand in the head. -/
def guardsIn (l : List Oper) : Bool := l.all fun o => match o.guard with | none => true | some (g, _) => decide (g < l.length)
theorem wanted_same {hops : Array Oper} {o : Oper} {n : Nat} (tmps : Array Value) (hg : ∀ g b, o.guard = some (g, b) → g < n) (hsub : ∀ i, i < n → hops[i]? = ops[i]?) : Region.wanted o (yielded ops tmps) = Region.wanted o (yielded hops tmps) := by
 unfold Region.wanted
 split
 ·rfl
 ·rename_i j want h
  have := hsub j (hg j want h)
  unfold yielded
  rw [this]
theorem Inv.sees' {hops : Array Oper} {listed : Array Bool} {a : Act} {w : World} {n i : Nat} {o : Oper} (h : Inv hops specs a0 C listed a w) (hs : sound hops n = true) (ho : hops[i]? = some o) (hall : ∀ e ∈ o.after, Region.binds .any e = true → listed.getD e.on false = true) :
  ∀ t ∈ o.looksAt hops, (slotS hops specs a0 t).ok (a.eval (.tmp t)) w := by
 intro t ht
 unfold slotS
 cases hw : writer hops t with
 | none =>
  simp only [Spec.ok, Act.eval]
  have := h.slot t (by simp [hw])
  simp [Array.getD_eq_getD_getElem?, this]
 | some j =>
  obtain ⟨e, he, hb, hj⟩ := (sound_at hs ho).2.1 t ht j hw
  have hl := hall e he hb
  rw [hj] at hl
  obtain ⟨v, hv, hk⟩ := h.done t j hw hl
  simp only [Act.eval, Array.getD_eq_getD_getElem?, hv]
  exact hk
theorem head_listed {hops : Array Oper} {listed : Array Bool} {m n : Nat} (hs : sound hops m = true) (hsub : ∀ i, i < n → hops[i]? = ops[i]?) (hn : n ≤ ops.size) (hr : Region.ready .any ops listed = []) (hsz : listed.size = ops.size) : ∀ j, j < n → listed.getD j false = true := by
 intro j
 induction j using Nat.strongRecOn with
 | _ j ih =>
  intro hj
  have hj2 : j < ops.size := by omega
  cases hl : listed.getD j false with
  | true => rfl
  | false =>
   have ho : ops[j]? = some ops[j] := Array.getElem?_eq_getElem hj2
   have : j ∈ Region.ready .any ops listed := by
    rw [mem_ready]
    refine ⟨?_, ops[j], ho, fun e he hb => ?_⟩
    ·have hj' : j < listed.size := by omega
     simp [hj'] at hl ⊢
     exact hl
    ·have := (sound_at hs (i := j) (o := ops[j]) (by rw [hsub j hj]; exact ho)).1 e he hb
     exact ih e.on this (by omega)
   rw [hr] at this
   cases this

theorem rows_tail {Q : Exit → Act → World → Prop} {n : Nat} {t : List Oper} {hops : Array Oper} (hs : sound hops a0.tmps.size = true) (hsub : ∀ i, i < n → hops[i]? = ops[i]?) (hgi : ∀ i o g b, i < n → ops[i]? = some o → o.guard = some (g, b) → g < n)
  (hst : ∀ (j : Nat) (v : Value) (w w' : World), ((specs[j]?).getD (.inl undef)).ok v w → E w w' → ((specs[j]?).getD (.inl undef)).ok v w') (hrefl : ∀ w, E w w)
  (hsink : Region.sinkB .any ops n = true) (hchain : Region.chainB .any ops n = true) (hn : n < ops.size)
  (ht : ∀ j, t[j]? = ops[n + j]?) (hseq : Region.seqB .any ops t.length n (headDone ops.size n) = true)
  (hG : ∀ (i : Nat) (o : Oper), i < n → ops[i]? = some o → GoodOp P hops specs a0 C E o ((specs[i]?).getD (.inl undef)))
  (hF : ∀ (listed : Array Bool) (a : Act) (w : World), Inv hops specs a0 C listed a w → (∀ j, j < n → listed.getD j false = true) → wpList P ops Q t a w) :
  ∀ (fuel : Nat) (listed : Array Bool) (a : Act) (w : World), Inv hops specs a0 C listed a w → HeadInv .any ops n listed → cnt n (fun j => !listed.getD j true) = fuel → wpAny P .any ops Q (fuel + t.length) listed a w
 | 0, listed, a, w, h, hh, hc => by
  rw [Nat.zero_add]
  have h1 : ∀ j, j < n → listed.getD j true = true := fun j hj => by
   have := cnt_zero _ _ hc j hj
   simpa using this
  have h1' : ∀ j, j < n → listed.getD j false = true := fun j hj => by
   have := h1 j hj
   have hj' : j < listed.size := by rw [hh.size]; omega
   simp [hj'] at this ⊢
   exact this
  have he := headDone_of hh.size h1 hh.tail
  exact wpAny_of_seq t n listed a w ht (by rw [he]; exact hseq) (hF listed a w h h1')
 | fuel + 1, listed, a, w, h, hh, hc => by
  have hex : ∃ i, i < n ∧ listed.getD i true = false := by
   refine Classical.byContradiction fun hno => ?_
   have : cnt n (fun j => !listed.getD j true) = 0 := by
    rw [cnt_same n _ (fun _ => false) (fun j hj => ?_)]
    ·exact cnt_none n
    ·cases hl : listed.getD j true with
     | true => rfl
     | false => exact absurd ⟨j, hj, hl⟩ hno
   omega
  obtain ⟨i0, hi0, hun⟩ := hex
  rw [show fuel + 1 + t.length = (fuel + t.length) + 1 by omega]
  refine ⟨fun hr => ?_, fun i hi => ?_⟩
  ·have := head_listed hs hsub (Nat.le_of_lt hn) hr hh.size i0 hi0
   rw [getD_both hun] at this
   cases this
  ·have hin : i < n := by
    rcases Nat.lt_or_ge i n with h' | h'
    ·exact h'
    ·exact absurd hi (tail_waits hsink hchain hn hh _ i0 rfl hi0 hun i h')
   obtain ⟨h0, o, ho, hall⟩ := mem_ready.1 hi
   have hi2 : i < listed.size := by rw [hh.size]; omega
   have hho : hops[i]? = some o := by rw [hsub i hin]; exact ho
   have hnext : ∀ (v : Value) (w' : World), ((specs[i]?).getD (.inl undef)).ok v w' → E w w' → C w' → wpAny P .any ops Q (fuel + t.length) (listed.setIfInBounds i true) (a.put o.dst v) w' := by
    intro v w' hv hE hC
    refine rows_tail hs hsub hgi hst hrefl hsink hchain hn ht hseq hG hF fuel _ _ _ (h.step hs hho hi2 hst hE hC hv) (hh.set hi hin) ?_
    have hstep := cnt_step n (fun j => !listed.getD j true) (fun j => !(listed.setIfInBounds i true).getD j true) i hin (by simp [h0]) (by simp [hi2]) (fun j hj => by rw [getD_set_ne true (Ne.symm hj)])
    omega
   have hg := hG i o hin ho Q a w h.cls (h.sees' hs hho hall)
   rw [← wanted_same (ops := ops) (hops := hops) (n := n) a.tmps (fun g b => hgi i o g b hin ho) hsub] at hg
   unfold wpOp
   simp only [ho]
   split
   ·rename_i hw
    refine .inl (Oper.wp_mono (fun a' w' hk => ?_) (hg.1 hw))
    obtain ⟨v, rfl, hv, hE, hC⟩ := hk
    exact hnext v w' hv hE hC
   ·rename_i hw
    exact hnext undef w (hg.2 (by simpa using hw)) (hrefl w) h.cls

/-- **A REGION WHOSE ORDER IS OPEN UP TO ITS TAIL: THE HEAD BY ITS SENTENCES, THE TAIL IN ITS ORDER.** (The tail may write what the head reads.) -/
theorem wp_rows_tail {id : Nat} {Q : Exit → Act → World → Prop} {w : World} (l t : List Oper) {lt : List Oper} (hlt : lt = l ++ t) (specs : List Spec) (C : World → Prop) (E : World → World → Prop) (n : Nat) (hm : P.follows .mixedOrders = true)
  (hn : a0.tmps.size = n) (hsg : (sound l.toArray n && guardsIn l) = true) (hsink : Region.sinkB .any lt.toArray l.length = true) (hchain : Region.chainB .any lt.toArray l.length = true)
  (hpos : 0 < t.length) (hseq : Region.seqB .any lt.toArray t.length l.length (headDone lt.toArray.size l.length) = true) (hst : Stands E specs) (hrefl : ∀ w, E w w) (hC : C w.drew)
  (hG : Goods P l.toArray specs a0 C E l specs) (hF : ∀ w', C w' → later w' (fun a' => wpList P lt.toArray Q t a' w') l specs a0) : (Code.region id lt.toArray true).wp P Q a0 w := by
 subst hn
 simp only [Bool.and_eq_true] at hsg
 obtain ⟨hs, hgs⟩ := hsg
 have hsize : lt.toArray.size = l.length + t.length := by simp [hlt]
 have hat : ∀ i, i < l.length → lt.toArray[i]? = l[i]? := fun i hi => by simp [hlt, List.getElem?_append_left hi]
 refine wp_region_any hm ?_
 have hcnt : cnt l.length (fun j => !(Array.replicate lt.toArray.size false).getD j true) = l.length := cnt_all _ _ (fun j hj => by
  have : j < lt.toArray.size := by omega
  simp at this
  simp [this])
 have hinv : HeadInv .any lt.toArray l.length (Array.replicate lt.toArray.size false) := by
  refine ⟨by simp, fun j oj _ hl => ?_, fun t' h1 h2 => ?_⟩
  ·rw [getD_replicate_false] at hl; cases hl
  ·simp at h2; simp [h2]
 have := rows_tail (P := P) (ops := lt.toArray) (hops := l.toArray) (specs := specs) (a0 := a0) (C := C) (E := E) (Q := Q) (n := l.length) (t := t) hs (fun i hi => by rw [hat i hi]; simp) ?hgi (fun j v w w' => stands_at specs hst j v w w') hrefl hsink hchain (by omega)
  (fun j => by rw [hlt]; simp [List.getElem?_append_right]) hseq ?hgood ?hfin l.length (Array.replicate lt.toArray.size false) a0 w.drew ?hst0 hinv hcnt
 case hgi =>
  intro i o g b hi ho hgd
  rw [hat i hi] at ho
  have := List.all_eq_true.1 hgs o (List.mem_of_getElem? ho)
  rw [hgd] at this
  simpa using this
 case hgood =>
  intro i o hi ho
  rw [hat i hi] at ho
  obtain ⟨s, h1, h2⟩ := goods_at l specs hG i o ho
  rw [h1]
  exact h2
 case hfin =>
  intro listed a w' hI hall
  have hwr : ∀ o ∈ l, ∀ d, o.dst = some d → ∃ j, j < l.length ∧ writer l.toArray d = some j := fun o ho d hd => by
   obtain ⟨j, hj⟩ := List.getElem?_of_mem ho
   have hjl := (List.getElem?_eq_some_iff.1 hj).1
   exact ⟨j, hjl, ((sound_at hs (i := j) (o := o) (by simpa using hj)).2.2 d hd).2⟩
  have hfill : fill (fun t => a.tmps.getD t undef) l a0 = a := by
   have hz := fill_size (fun t => a.tmps.getD t undef) l a0
   refine act_ext (hz.2.trans hI.defers.symm) (hz.1.trans hI.size.symm) fun d hd => ?_
   rw [hz.1] at hd
   by_cases hw : ∃ o ∈ l, o.dst = some d
   ·rw [fill_same _ l a0 d hd hw]
    obtain ⟨o, ho, hod⟩ := hw
    obtain ⟨j, hj, hwj⟩ := hwr o ho d hod
    obtain ⟨v, hv, _⟩ := hI.done d j hwj (hall j hj)
    simp [hv, Array.getD_eq_getD_getElem?]
   ·rw [fill_other _ l a0 d (fun o ho hod => hw ⟨o, ho, hod⟩)]
    refine (hI.slot d fun j hj => ?_).symm
    obtain ⟨o, ho, hod⟩ := writer_some hj
    exact absurd ⟨o, List.mem_of_getElem? (by simpa using ho), hod⟩ hw
  have h := later_fill (w := w') (K := fun a' => wpList P lt.toArray Q t a' w') (fun t => a.tmps.getD t undef) l specs a0 (hF w' hI.cls) (fun j o d s ho hd hss => by
   have hjl := (List.getElem?_eq_some_iff.1 ho).1
   have hw := ((sound_at hs (i := j) (o := o) (by simpa using ho)).2.2 d hd).2
   obtain ⟨v, hv, hk⟩ := hI.done d j hw (hall j hjl)
   rw [hss] at hk
   simpa [hv, Array.getD_eq_getD_getElem?] using hk)
  rwa [hfill] at h
 case hst0 => exact ⟨hC, rfl, rfl, fun t _ => rfl, fun t j _ hl => by rw [getD_replicate_false] at hl; cases hl⟩
 rw [hsize] at this ⊢
 exact this

variable {o : Oper} {s : Spec}
theorem good_index {t : TypeId} {x i : Operand} {vx vi v : Value} (hrefl : ∀ w, E w w) (ho : o.op = .indexAddr t x i) (hg : guardV ops specs a0 o = some true)
  (hx : argS ops specs a0 x = .inl vx) (hi : argS ops specs a0 i = .inl vi) (h : ∀ w, C w → (Instr.indexAt t vx vi).run P w = .ok v w) : GoodOp P ops specs a0 C E o (.inl v) :=
 good_val hrefl hg fun a w hC hh => by
  have h1 := hh x (by rw [ho]; simp [Op.operands])
  have h2 := hh i (by rw [ho]; simp [Op.operands])
  rw [hx] at h1
  rw [hi] at h2
  simp only [Spec.ok] at h1 h2
  refine ⟨v, ?_, rfl⟩
  unfold execOp
  rw [ho]
  simp only [h1, h2, Sem.run_bind, Result.andThen, h w hC, Sem.run_pure]
theorem good_load {t : TypeId} {x : Operand} {vx v : Value} (hrefl : ∀ w, E w w) (ho : o.op = .load t x) (hg : guardV ops specs a0 o = some true)
  (hx : argS ops specs a0 x = .inl vx) (h : ∀ w, C w → (Instr.loadAt t vx).run P w = .ok v w) : GoodOp P ops specs a0 C E o (.inl v) :=
 good_val hrefl hg fun a w hC hh => by
  have h1 := hh x (by rw [ho]; simp [Op.operands])
  rw [hx] at h1
  simp only [Spec.ok] at h1
  refine ⟨v, ?_, rfl⟩
  unfold execOp
  rw [ho]
  simp only [h1, Sem.run_bind, Result.andThen, h w hC, Sem.run_pure]
end
end Go.Proofs.YtbdjccmlgdfapaaGreat.Rg
namespace Go.Proofs.YtbdjccmlgdfapaaGreat
open Go.RowKit
set_option linter.unusedVariables false
theorem zig_any (n : Int) (w : World) (h1 : -9223372036854775808 ≤ n) (h2 : n ≤ 9223372036854775807) :
  Calls Tryz.prog 55 #[.int .i64 n] w fun e w' => e = .returned (.int .u64 (M.zig n)) ∧ w' = w := by
 by_cases h : n < 0
 ·go_enter Tryz.func55, Tryz.ntmps55
  go_wp2
  go_ret
  refine ⟨I.ret_int ?_, rfl⟩
  rw [I.xor1u _ (by rw [I.w64]; omega) (by rw [I.w64]; omega), I.w64, I.w64]
  have h' : n < 0 := by omega
  unfold M.zig; rw [if_pos h']; omega
 ·go_enter Tryz.func55, Tryz.ntmps55
  go_wp2
  go_ret
  refine ⟨I.ret_int ?_, rfl⟩
  have h' : ¬ n < 0 := by omega
  unfold M.zig; rw [if_neg h']
  first | omega | (rw [I.w64]; omega) | (rw [I.w64, I.w64]; omega)
theorem zag_any (n : Int) (w : World) (h1 : 0 ≤ n) (h2 : n ≤ 18446744073709551615) :
  Calls Tryz.prog 105 #[.int .u64 n] w fun e w' => e = .returned (.int .i64 (M.zag n)) ∧ w' = w := by
 have ha := I.and1 n h1 h2
 go_enter Tryz.func105, Tryz.ntmps105
 go_wp2
 all_goals go_ret
 ·have h0 : (n % 2 == 1) = true := by assumption
  have h0 : n % 2 = 1 := by simpa using h0
  refine ⟨I.ret_int ?_, rfl⟩
  rw [I.xor1i _ (by omega) (by omega)]
  simp only [M.zag, if_pos h0]
 ·have h0 : (n % 2 == 1) = false := by assumption
  have h0 : ¬ n % 2 = 1 := by simpa using h0
  refine ⟨I.ret_int ?_, rfl⟩
  simp only [M.zag, if_neg h0]
theorem short_any (s c : Int) (w : World) (h0 : 0 ≤ c) (h1 : 1 ≤ s) :
  Calls Tryz.prog 116 #[.int .i64 s, .int .u8 c] w fun e w' => e = .returned (.bool (M.short s.toNat c.toNat)) ∧ w' = w := by
 obtain ⟨n, rfl⟩ := Int.eq_ofNat_of_zero_le (show 0 ≤ s by omega)
 obtain ⟨m, rfl⟩ := Int.eq_ofNat_of_zero_le h0
 rw [Int.toNat_natCast, Int.toNat_natCast]
 go_enter Tryz.func116, Tryz.ntmps116
 go_wp2
 all_goals go_ret
 all_goals refine ⟨I.ret_bool ?_, rfl⟩
 all_goals (simp_all [M.short]; try omega)
 all_goals (rw [Bool.eq_iff_iff]; simp; omega)
theorem short_is (n m : Nat) (b : Bool) (s c : Int) (w : World) (h : M.short n m = b) (hs : s = n) (hc : c = m) (h1 : 1 ≤ n) :
  Calls Tryz.prog 116 #[.int .i64 s, .int .u8 c] w fun e w' => e = .returned (.bool b) ∧ w' = w := by
 subst hs; subst hc; subst h
 have := short_any (n : Int) (m : Int) w (by omega) (by omega)
 simpa using this
theorem get_arg (a : Option Addr) (cap : Nat) (l : List UInt8) (p : Int) (w : World) (hm : cap ≤ maxLen) (hl : l.length ≤ cap) (hp : p < 0 ∨ (l.length : Int) < p) :
  Calls Tryz.prog 103 #[.slice a l.length cap, .int .i64 p] w fun e w' =>
   e = .returned (.tuple #[.int .u64 (M.get l p).1, .int .i64 (M.get l p).2.1, .int .i64 (M.get l p).2.2]) ∧ w' = w := by
 unfold maxLen at hm
 rw [M.get_out hp]
 rcases hp with h | h
 ·go_enter Tryz.func103, Tryz.ntmps103
  go_wp2
  go_ret3
  exact ⟨ret3 rfl rfl rfl, rfl⟩
 ·have h0 : ¬ p < 0 := by omega
  go_enter Tryz.func103, Tryz.ntmps103
  go_wp2
  go_ret3
  exact ⟨ret3 rfl rfl rfl, rfl⟩
set_option maxRecDepth 100000 in
theorem get_in (a : Option Addr) (cap : Nat) (l : List UInt8) (p : Nat) (w : World) (hB : Byt w a cap l) (hp : p ≤ l.length) :
  Calls Tryz.prog 103 #[.slice a l.length cap, .int .i64 p] w fun e w' =>
   e = .returned (.tuple #[.int .u64 (M.get l p).1, .int .i64 (M.get l p).2.1, .int .i64 (M.get l p).2.2]) ∧ w' = w := by
 obtain ⟨hlc, hcm, hnone, hcell⟩ := hB
 unfold maxLen at hcm
 have hlen : l.length ≤ 9223372036854775807 := by omega
 have hp0 : ¬ (p : Int) < 0 := by omega
 have hp1 : ¬ (l.length : Int) < (p : Int) := by omega
 go_enter Tryz.func103, Tryz.ntmps103
 go_wp2
 go_loop [7] (fun i => ∃ k : Nat, p ≤ k ∧ k ≤ l.length ∧ i = .int .i64 k ∧ M.lead (l.drop p) = (k - p) + M.lead (l.drop k)) (fun i => l.length - (intOf i).toNat)
 case atStart => exact ⟨p, Nat.le_refl _, hp, rfl, by omega⟩
 case round =>
  obtain ⟨k, hk1, hk2, rfl, hlead⟩ := hrel
  have HL : Hid (M.lead (l.drop p) = (k - p) + M.lead (l.drop k)) := hlead
  clear hlead
  by_cases hlt : k < l.length
  ·obtain ⟨b, off, rfl, hc⟩ := hcell k hlt
   have hb256 := M.bAt_lt l k
   by_cases hb : 128 ≤ M.bAt l k
   ·have hb' : (128 : Int) ≤ (M.bAt l k : Int) := by omega
    go_wp2
    go_round
    case rel => exact ⟨k + 1, by omega, by omega, by go_num, by rw [HL.out, M.lead_more hlt hb]; omega⟩
    case measure => simp [intOf]; omega
   ·have hb' : ¬ (128 : Int) ≤ (M.bAt l k : Int) := by omega
    have hne : ((k : Int) == (l.length : Int)) = false := by simp; omega
    have hcell' : ∀ i, i < l.length → w.cell? ⟨b, off + i, none⟩ = some (.int .u8 (M.bAt l i)) := by
     intro i hi
     obtain ⟨b', off', h1, h2⟩ := hcell i hi
     simp at h1
     obtain ⟨rfl, rfl⟩ := h1
     exact h2
    have HC : Hid (∀ i, i < l.length → w.cell? ⟨b, off + i, none⟩ = some (.int .u8 (M.bAt l i))) := hcell'
    clear hcell hcell' hnone
    have hlk : M.lead (l.drop p) = k - p := by rw [HL.out, M.lead_last hlt (by omega)]; omega
    have HK : Hid (M.lead (l.drop p) = k - p) := hlk
    clear hlk HL
    obtain ⟨d, rfl⟩ : ∃ d, k = p + d := ⟨k - p, by omega⟩
    cases hs : M.short (d + 1) (M.bAt l (p + d))
    ·have hfin : M.get l (p : Int) = (0, 0, 12) := M.get_form hlt (by rw [HK.out]; omega) hs
     have HF : Hid (M.get l (p : Int) = (0, 0, 12)) := hfin
     have HS : Hid (M.short (d + 1) (M.bAt l (p + d)) = false) := hs
     clear hfin hs
     go_wp2_with (go_at_call 116; refine (short_is (d + 1) (M.bAt l (p + d)) false _ _ _ HS.out (by omega) rfl (by omega)).mono ?_; rintro e w' ⟨rfl, rfl⟩)
     go_ret3
     exact ⟨by rw [HF.out]; exact ret3 rfl rfl rfl, rfl⟩
    ·have hfin := M.get_ok hlt (by rw [HK.out]; omega) hs
     have hbd := M.get_bound hlt hs
     rw [← show p + d + 1 - p = d + 1 from by omega, ← M.seg_full (l := l) (K := p + d) (at' := p) (by omega), show p + d + 1 - p = d + 1 from by omega] at hfin hbd
     have HF : Hid (M.get l (p : Int) = (M.num (M.seg l (p + d) (d + 1)), p + d + 1, 0)) := hfin
     have HB : Hid (M.num (M.seg l (p + d) (d + 1)) < 18446744073709551616) := hbd
     have HS : Hid (M.short (d + 1) (M.bAt l (p + d)) = true) := hs
     clear hfin hs hbd
     go_wp2_with (go_at_call 116; refine (short_is (d + 1) (M.bAt l (p + d)) true _ _ _ HS.out (by omega) rfl (by omega)).mono ?_; rintro e w' ⟨rfl, rfl⟩)

     go_loop [8, 9] (fun n i => ∃ j : Nat, j ≤ d + 1 ∧ i = .int .i64 ((p : Int) + d - j) ∧ n = .int .u64 (M.num (M.seg l (p + d) j))) (fun _ i => (intOf i + 1 - p).toNat)
     case atStart => exact ⟨0, by omega, by simp, by rw [M.seg_zero]; rfl⟩
     case round =>
      obtain ⟨j, hj, rfl, rfl⟩ := hrel
      by_cases hjd : j < d + 1
      ·have hmono := M.seg_mono (l := l) (K := p + d) hlt (d - j) (j + 1) (by omega)
       rw [show j + 1 + (d - j) = d + 1 from by omega] at hmono
       have hsucc := M.seg_succ (l := l) (K := p + d) (j := j) (by omega) hlt
       have hb8 := M.bAt_lt l (p + d - j)
       have hcj := HC.out (p + d - j) (by omega)
       have hBd := HB.out
       have HSU : Hid (M.num (M.seg l (p + d) (j + 1)) = M.bAt l (p + d - j) % 128 + 128 * M.num (M.seg l (p + d) j)) := hsucc
       have hlo : M.num (M.seg l (p + d) j) * 128 + M.bAt l (p + d - j) % 128 < 18446744073709551616 := by omega
       clear hsucc hmono hBd
       go_wp2
       go_round
       case rel => exact ⟨j + 1, by omega, I.int_num (by omega), I.int_num (I.digit _ _ _ hb8 hlo HSU.out)⟩
       case measure => simp [intOf]; omega
      ·obtain rfl : j = d + 1 := by omega
       go_wp2
       go_ret3
       exact ⟨by rw [HF.out]; exact ret3 rfl rfl rfl, rfl⟩
  ·have hkl : k = l.length := by omega
   subst hkl
   have hfin : M.get l (p : Int) = (0, 0, 10) := M.get_end hp (by rw [HL.out, M.lead_end (Nat.le_refl _)]; omega)
   have HF : Hid (M.get l (p : Int) = (0, 0, 10)) := hfin
   clear hfin
   go_wp2
   go_ret3
   exact ⟨by rw [HF.out]; exact ret3 rfl rfl rfl, rfl⟩
/-- Get, of any bytes, at any place. -/
theorem get_any (a : Option Addr) (cap : Nat) (l : List UInt8) (p : Int) (w : World) (hB : Byt w a cap l) :
  Calls Tryz.prog 103 #[.slice a l.length cap, .int .i64 p] w fun e w' =>
   e = .returned (.tuple #[.int .u64 (M.get l p).1, .int .i64 (M.get l p).2.1, .int .i64 (M.get l p).2.2]) ∧ w' = w := by
 by_cases h : p < 0 ∨ (l.length : Int) < p
 ·exact get_arg a cap l p w hB.2.1 hB.1 h
 ·obtain ⟨n, rfl⟩ := Int.eq_ofNat_of_zero_le (show 0 ≤ p by omega)
  exact get_in a cap l n w hB (by omega)
theorem room_any (a : Option Addr) (cap : Nat) (l : List UInt8) (r : Nat) (w : World) (hB : Byt w a cap l) (hr : l.length + r ≤ 281474976710656) :
  Calls Tryz.prog 85 #[.slice a l.length cap, .int .i64 r] w fun e w' =>
   ∃ v', e = .returned v' ∧ Own w' w.heap.size v' l ∧ Below w.heap.size w w' := by
 obtain ⟨i0, hi, hz0, hz1, hz2⟩ := info_parts Tryz.info5
 obtain ⟨hlc, hcm, hnone, hcell⟩ := hB
 have hlen : l.length ≤ 281474976710656 := by omega
 obtain ⟨C, hC⟩ : ∃ C, C = cs l := ⟨_, rfl⟩
 have hCl : C.length = l.length := by rw [hC, cs_len]
 have HC : Hid (C = cs l) := hC
 have hone : ∀ v ∈ C, v.oneCell' = true := by rw [hC]; exact cs_one l
 clear hC
 go_enter Tryz.func85, Tryz.ntmps85
 go_wp2_with (first
  | (at_make; refine wpList_make_some _ rfl _ _ 26 rfl 5 i0 (.int .u8 0) Tryz.underlying26 hi hz0 hz1 hz2 .i64 .i64 _ _ l.length (l.length + r) rfl rfl (by omega) (by omega) (by omega) (by omega) ?_; intro w1 cur hcur hg1 hb1)
  | (have _t := hg1; refine wpList_copy_splice rfl (.tmp 13) (.tmp 14) 26 26 rfl 5 Tryz.underlying26 Tryz.size5 _ _ _ _ _ _ rfl rfl w.heap.size 0 cur 5 hg1 C ?c1 ?c2 ?c3 hone w.heap.size w hb1 (Nat.le_refl _) ?_; rotate_right; intro w2 hg2 hb2; clear hg1))
 case c1 => rw [hCl]; exact (Nat.min_self _).symm
 case c2 =>
  intro h0
  obtain ⟨b, off, rfl, _⟩ := hcell 0 h0
  refine ⟨_, rfl, fun j u hu => ?_⟩
  rw [HC.out] at hu
  obtain ⟨hj, rfl⟩ := cs_get hu
  obtain ⟨b', off', hbo, hc⟩ := hcell j hj
  simp at hbo
  obtain ⟨rfl, rfl⟩ := hbo
  rw [add_none, hb1.cell (p := ⟨b, off + j, none⟩) (World.block_lt_of_cell? w _ hc)]
  exact hc
 case c3 => omega
 go_ret
 refine ⟨_, rfl, ?_, hb2⟩
 have hg := hg2.out
 refine ⟨by simp [cs_len], .inr ⟨w.heap.size, l.length + r, _, rfl, Nat.le_refl _, hg, by omega, by unfold maxLen; omega, ?_, ?_⟩⟩
 ·simp only [List.size_toArray]; rw [length_splice _ _ _ (by omega)]; omega
 ·rw [← HC.out]
  simp [splice, ← hCl]
set_option maxRecDepth 100000 in
theorem addNumber_any (base : Nat) (v : Value) (l : List UInt8) (n : Nat) (w : World) (hv : Own w base v l) (hn : n < 18446744073709551616) (hlen : l.length + 10 ≤ 140737488355328) (hb : base ≤ w.heap.size) :
  Calls Tryz.prog 84 #[v, .int .u64 n] w fun e w' => ∃ v', e = .returned v' ∧ Own w' base v' (l ++ M.digs n) ∧ Below base w w' := by
 obtain ⟨i0, hi, hz0, hz1, hz2⟩ := info_parts Tryz.info5
 have hD := M.digs_len n
 go_enter Tryz.func84, Tryz.ntmps84
 go_wp2
 go_loopw [0, 1] (fun v i wr => ∃ (pre : List UInt8) (N : Nat), N < 18446744073709551616 ∧ i = .int .u64 N ∧ pre ++ M.digs N = M.digs n ∧ Own wr base v (l ++ pre) ∧ Below base w wr) (fun _ i _ => (intOf i).toNat)
 case atStart => exact ⟨[], n, hn, rfl, rfl, by simpa using hv, Below.refl _ _⟩
 case round =>
  obtain ⟨pre, N, hN, rfl, hpre, hown, hbel⟩ := hrel
  have hpl : pre.length + 1 ≤ 10 := by
   have h1 := congrArg List.length hpre
   have h2 := M.digs_len N
   simp at h1; omega
  have hsz := hbel.size
  have HP : Hid (pre ++ M.digs N = M.digs n) := hpre
  clear hpre
  by_cases hlt : 127 < N
  ·have h1 := I.and127 (N : Int) (by omega) (by omega)
   have h2 := I.or128b ((N : Int) % 128) (by omega) (by omega)
   go_wp2_with (at_builtin; refine wpList_append_own _ rfl (.tmp 7) (.tmp 12) 26 rfl base 5 i0 (.int .u8 0) 1 1 Tryz.underlying26 hi hz0 hz1 hz2 rfl (by decide) _ _ _ rfl (hown.alloc _) ⟨wr.heap.size, 0, none⟩ 1 1 [.int .u8 ((N : Int) % 128 + 128)] rfl rfl ?c1 ?c2 ?c3 ?c4 ?c5 ?_)
   case c1 => exact one_cell wr _
   case c2 => intro u hu; simp at hu; subst hu; rfl
   case c3 => simp [maxLen]; omega
   case c4 => simp; omega
   case c5 => simp; omega
   intro v' w1 hown' hgrow _
   have hb' := step_below hbel (by omega) hown hgrow
   have ho' : Own w1 base v' (l ++ (pre ++ [UInt8.ofNat (N % 128 + 128)])) := by
    rw [← List.append_assoc]
    exact own_push hown' (by simp) (by simp; omega)
   have hd : pre ++ [UInt8.ofNat (N % 128 + 128)] ++ M.digs (N / 128) = M.digs n := by
    rw [← HP.out, M.digs_more (by omega) hN]; simp
   have HD : Hid (pre ++ [UInt8.ofNat (N % 128 + 128)] ++ M.digs (N / 128) = M.digs n) := hd
   clear hown' hgrow hown hbel hd
   go_wp2
   go_roundw
   case rel => exact ⟨_, N / 128, by omega, I.int_num (by omega), HD.out, ho', hb'⟩
   case measure => simp [intOf]; omega
  ·go_wp2_with (at_builtin; refine wpList_append_own _ rfl (.tmp 16) (.tmp 19) 26 rfl base 5 i0 (.int .u8 0) 1 1 Tryz.underlying26 hi hz0 hz1 hz2 rfl (by decide) _ _ _ rfl (hown.alloc _) ⟨wr.heap.size, 0, none⟩ 1 1 [.int .u8 (N : Int)] rfl rfl ?d1 ?d2 ?d3 ?d4 ?d5 ?_)
   case d1 => exact one_cell wr _
   case d2 => intro u hu; simp at hu; subst hu; rfl
   case d3 => simp [maxLen]; omega
   case d4 => simp; omega
   case d5 => simp; omega
   intro v' w1 hown' hgrow _
   have hb' := step_below hbel (by omega) hown hgrow
   have ho' : Own w1 base v' (l ++ (pre ++ [UInt8.ofNat N])) := by
    rw [← List.append_assoc]
    exact own_push hown' (by simp) (by simp; omega)
   have hd : pre ++ [UInt8.ofNat N] = M.digs n := by
    rw [← HP.out, M.digs_low (by omega)]
   rw [hd] at ho'
   clear hown' hgrow hown hbel hd
   go_wp2
   go_ret
   exact ⟨_, rfl, ho', hb'⟩
/-- Put: b's bytes and n's, in new memory. -/
theorem put_any (a : Option Addr) (cap : Nat) (l : List UInt8) (n : Nat) (w : World) (hB : Byt w a cap l) (hn : n < 18446744073709551616) (hlen : l.length + 10 ≤ 140737488355328) :
  Calls Tryz.prog 53 #[.slice a l.length cap, .int .u64 n] w fun e w' => ∃ v', e = .returned v' ∧ Own w' w.heap.size v' (l ++ M.digs n) ∧ Below w.heap.size w w' := by
 go_enter Tryz.func53, Tryz.ntmps53
 go_wp2_with fail
 refine (room_any a cap l 10 _ hB (by omega)).mono ?_
 rintro e w1 ⟨v1, rfl, ho1, hb1⟩
 go_wp2_with fail
 refine (addNumber_any _ v1 l n _ ho1 hn hlen hb1.size).mono ?_
 rintro e w2 ⟨v2, rfl, ho2, hb2⟩
 go_wp2
 go_ret
 exact ⟨_, rfl, ho2, hb1.trans hb2⟩
theorem get_is (a : Option Addr) (n cap : Nat) (l : List UInt8) (p : Int) (w : World) (N k e0 : Nat) (hr : M.get l p = (N, k, e0)) (hB : Byt w a cap l) (hn : n = l.length) :
  Calls Tryz.prog 103 #[.slice a n cap, .int .i64 p] w fun e w' => e = .returned (.tuple #[.int .u64 N, .int .i64 k, .int .i64 e0]) ∧ w' = w := by
 subst hn
 have h := get_any a cap l p w hB
 rw [hr] at h
 exact h
theorem put_is (a : Option Addr) (n cap : Nat) (l r : List UInt8) (m : Int) (k : Nat) (w : World) (hm : m = k) (hr : l ++ M.digs k = r) (hB : Byt w a cap l) (hn : n = l.length) (hk : k < 18446744073709551616) (hlen : l.length + 10 ≤ 140737488355328) :
  Calls Tryz.prog 53 #[.slice a n cap, .int .u64 m] w fun e w' => ∃ v', e = .returned v' ∧ Own w' w.heap.size v' r ∧ Below w.heap.size w w' := by
 subst hn; subst hr; subst hm
 exact put_any a cap l k w hB hk hlen
theorem zig_is (n m : Int) (w : World) (h1 : -9223372036854775808 ≤ n) (h2 : n ≤ 9223372036854775807) (hm : M.zig n = m) :
  Calls Tryz.prog 55 #[.int .i64 n] w fun e w' => e = .returned (.int .u64 m) ∧ w' = w := by subst hm; exact zig_any n w h1 h2
theorem zag_is (n m : Int) (w : World) (h1 : 0 ≤ n) (h2 : n ≤ 18446744073709551615) (hm : M.zag n = m) :
  Calls Tryz.prog 105 #[.int .u64 n] w fun e w' => e = .returned (.int .i64 m) ∧ w' = w := by subst hm; exact zag_any n w h1 h2
set_option maxRecDepth 100000 in
theorem getText_ok (a : Option Addr) (cap : Nat) (l : List UInt8) (p most : Int) (n k : Nat) (w : World) (hB : Byt w a cap l) (hg : M.get l p = (n, k, 0)) (hm : n ≤ most.toNat) (hl : k + n ≤ l.length) (h1 : -9223372036854775808 ≤ most) (h2 : most ≤ 9223372036854775807) :
  Calls Tryz.prog 104 #[.slice a l.length cap, .int .i64 p, .int .i64 most] w fun e w' => e = .returned (.tuple #[.string (str ((l.drop k).take n)), .int .i64 (k + n : Nat), .int .i64 0]) ∧ w' = w := by
 have hcm := hB.2.1
 have hlc := hB.1
 unfold maxLen at hcm
 have hlen : l.length ≤ 9223372036854775807 := by omega
 have HG : Hid (M.get l p = (n, k, 0)) := hg
 have HB : Hid (Byt w a cap l) := hB
 obtain ⟨t, ht⟩ : ∃ t, t = (l.drop k).take n := ⟨_, rfl⟩
 have htl : n = t.length := by rw [ht]; simp; omega
 have HT : Hid (n = t.length) := htl
 have hs1 : Byt w (Option.map (fun x => x.add k) a) (cap - k) t := ht ▸ hB.sub k n hl
 rw [← ht]
 clear hg hB htl ht
 by_cases hm0 : most < 0
 ·have hn0 : n = 0 := by omega
  subst hn0
  have ht0 : t = [] := List.eq_nil_of_length_eq_zero HT.out.symm
  subst ht0
  by_cases hck : cap = k
  ·subst hck
   have hr := run_str (n := 0) (Byt.none_ (w := w) a) rfl
   go_enter Tryz.func104, Tryz.ntmps104
   go_wp2_with fail
   refine (get_is a _ cap l p _ 0 cap 0 HG.out HB.out rfl).mono ?_
   rintro e w1 ⟨rfl, rfl⟩
   go_wp2_with fail
   go_ret3
   exact ⟨ret3 rfl (I.int_num (by omega)) rfl, rfl⟩
  ·have hr := run_str hs1 HT.out
   clear hs1
   go_enter Tryz.func104, Tryz.ntmps104
   go_wp2_with fail
   refine (get_is a _ cap l p _ 0 k 0 HG.out HB.out rfl).mono ?_
   rintro e w1 ⟨rfl, rfl⟩
   go_wp2_with fail
   go_ret3
   exact ⟨ret3 rfl (I.int_num (by omega)) rfl, rfl⟩
 ·obtain ⟨m, rfl⟩ := Int.eq_ofNat_of_zero_le (show 0 ≤ most by omega)
  have hm' : n ≤ m := by simpa using hm
  clear hm
  by_cases hck : cap = k
  ·have hn0 : n = 0 := by omega
   subst hn0
   have ht0 : t = [] := List.eq_nil_of_length_eq_zero HT.out.symm
   subst ht0
   subst hck
   have hr := run_str (n := 0) (Byt.none_ (w := w) a) rfl
   go_enter Tryz.func104, Tryz.ntmps104
   go_wp2_with fail
   refine (get_is a _ cap l p _ 0 cap 0 HG.out HB.out rfl).mono ?_
   rintro e w1 ⟨rfl, rfl⟩
   go_wp2_with fail
   go_ret3
   exact ⟨ret3 rfl (I.int_num (by omega)) rfl, rfl⟩
  ·have hr := run_str hs1 HT.out
   clear hs1
   go_enter Tryz.func104, Tryz.ntmps104
   go_wp2_with fail
   refine (get_is a _ cap l p _ n k 0 HG.out HB.out rfl).mono ?_
   rintro e w1 ⟨rfl, rfl⟩
   go_wp2_with fail
   go_ret3
   exact ⟨ret3 rfl (I.int_num (by omega)) rfl, rfl⟩
set_option maxRecDepth 100000 in
theorem getText_why (a : Option Addr) (cap : Nat) (l : List UInt8) (p most : Int) (n k e0 : Nat) (w : World) (hB : Byt w a cap l) (hg : M.get l p = (n, k, e0)) (he : e0 ≠ 0) (he2 : e0 ≤ 12) :
  Calls Tryz.prog 104 #[.slice a l.length cap, .int .i64 p, .int .i64 most] w fun e w' => e = .returned (.tuple #[.string (str []), .int .i64 0, .int .i64 e0]) ∧ w' = w := by
 have HG : Hid (M.get l p = (n, k, e0)) := hg
 have HB : Hid (Byt w a cap l) := hB
 have hne : ((e0 : Int) != 0) = true := by simp; omega
 clear hg hB
 go_enter Tryz.func104, Tryz.ntmps104
 go_wp2_with fail
 refine (get_is a _ cap l p _ n k e0 HG.out HB.out rfl).mono ?_
 rintro e w1 ⟨rfl, rfl⟩
 go_wp2_with fail
 go_ret3
 exact ⟨ret3 rfl rfl rfl, rfl⟩
set_option maxRecDepth 100000 in
theorem getText_long (a : Option Addr) (cap : Nat) (l : List UInt8) (p most : Int) (n k : Nat) (w : World) (hB : Byt w a cap l) (hg : M.get l p = (n, k, 0)) (hm : most.toNat < n) (hn : n < 18446744073709551616) (h1 : -9223372036854775808 ≤ most) (h2 : most ≤ 9223372036854775807) :
  Calls Tryz.prog 104 #[.slice a l.length cap, .int .i64 p, .int .i64 most] w fun e w' => e = .returned (.tuple #[.string (str []), .int .i64 0, .int .i64 3]) ∧ w' = w := by
 have HG : Hid (M.get l p = (n, k, 0)) := hg
 have HB : Hid (Byt w a cap l) := hB
 clear hg hB
 by_cases hm0 : most < 0
 ·have hm1 : 0 < n := by omega
  go_enter Tryz.func104, Tryz.ntmps104
  go_wp2_with fail
  refine (get_is a _ cap l p _ n k 0 HG.out HB.out rfl).mono ?_
  rintro e w1 ⟨rfl, rfl⟩
  go_wp2_with fail
  go_ret3
  exact ⟨ret3 rfl rfl rfl, rfl⟩
 ·obtain ⟨m, rfl⟩ := Int.eq_ofNat_of_zero_le (show 0 ≤ most by omega)
  have hm' : m < n := by simpa using hm
  clear hm
  go_enter Tryz.func104, Tryz.ntmps104
  go_wp2_with fail
  refine (get_is a _ cap l p _ n k 0 HG.out HB.out rfl).mono ?_
  rintro e w1 ⟨rfl, rfl⟩
  go_wp2_with fail
  go_ret3
  exact ⟨ret3 rfl rfl rfl, rfl⟩
set_option maxRecDepth 100000 in
theorem getText_lacks (a : Option Addr) (cap : Nat) (l : List UInt8) (p most : Int) (n k : Nat) (w : World) (hB : Byt w a cap l) (hg : M.get l p = (n, k, 0)) (hm : n ≤ most.toNat) (hk : k ≤ l.length) (hl : l.length - k < n) (hn : n < 18446744073709551616) (h1 : -9223372036854775808 ≤ most) (h2 : most ≤ 9223372036854775807) :
  Calls Tryz.prog 104 #[.slice a l.length cap, .int .i64 p, .int .i64 most] w fun e w' => e = .returned (.tuple #[.string (str []), .int .i64 0, .int .i64 10]) ∧ w' = w := by
 have hcm := hB.2.1
 have hlc := hB.1
 unfold maxLen at hcm
 have hlen : l.length ≤ 9223372036854775807 := by omega
 have HG : Hid (M.get l p = (n, k, 0)) := hg
 have HB : Hid (Byt w a cap l) := hB
 clear hg hB
 obtain ⟨m, rfl⟩ := Int.eq_ofNat_of_zero_le (show 0 ≤ most by omega)
 have hm' : n ≤ m := by simpa using hm
 clear hm
 go_enter Tryz.func104, Tryz.ntmps104
 go_wp2_with fail
 refine (get_is a _ cap l p _ n k 0 HG.out HB.out rfl).mono ?_
 rintro e w1 ⟨rfl, rfl⟩
 go_wp2_with fail
 go_ret3
 exact ⟨ret3 rfl rfl rfl, rfl⟩
/-- GetText, of any bytes, at any place. -/
theorem getText_any (a : Option Addr) (len cap : Nat) (l : List UInt8) (p most : Int) (w : World) (hB : Byt w a cap l) (hn : len = l.length) (h1 : -9223372036854775808 ≤ most) (h2 : most ≤ 9223372036854775807) (t : List UInt8) (k e0 : Nat) (hr : M.getText l p most = (t, k, e0)) :
  Calls Tryz.prog 104 #[.slice a len cap, .int .i64 p, .int .i64 most] w fun e w' => e = .returned (.tuple #[.string (str t), .int .i64 k, .int .i64 e0]) ∧ w' = w := by
 subst hn
 have hb := M.get_all l p
 obtain ⟨⟨n, k1, e1⟩, hg⟩ : ∃ x, M.get l p = x := ⟨_, rfl⟩
 unfold M.getText at hr
 rw [hg] at hr hb
 simp only at hr hb
 by_cases h : e1 = 0
 ·subst h
  rw [if_neg (by simp)] at hr
  by_cases h' : most.toNat < n
  ·rw [if_pos h'] at hr
   simp only [Prod.mk.injEq] at hr
   obtain ⟨rfl, rfl, rfl⟩ := hr
   exact getText_long a cap l p most n k1 w hB hg h' hb.1 h1 h2
  ·rw [if_neg h'] at hr
   by_cases h3 : l.length - k1 < n
   ·rw [if_pos h3] at hr
    simp only [Prod.mk.injEq] at hr
    obtain ⟨rfl, rfl, rfl⟩ := hr
    exact getText_lacks a cap l p most n k1 w hB hg (by omega) hb.2.1 h3 hb.1 h1 h2
   ·rw [if_neg h3] at hr
    simp only [Prod.mk.injEq] at hr
    obtain ⟨rfl, rfl, rfl⟩ := hr
    exact getText_ok a cap l p most n k1 w hB hg (by omega) (by omega) h1 h2
 ·rw [if_pos h] at hr
  simp only [Prod.mk.injEq] at hr
  obtain ⟨rfl, rfl, rfl⟩ := hr
  exact getText_why a cap l p most n k1 e1 w hB hg h hb.2.2
theorem room_is (a : Option Addr) (n cap : Nat) (l : List UInt8) (R : Int) (r : Nat) (w : World) (hB : Byt w a cap l) (hn : n = l.length) (hR : R = r) (hr : l.length + r ≤ 281474976710656) :
  Calls Tryz.prog 85 #[.slice a n cap, .int .i64 R] w fun e w' => ∃ v', e = .returned v' ∧ Own w' w.heap.size v' l ∧ Below w.heap.size w w' := by
 subst hn; subst hR; exact room_any a cap l r w hB hr
theorem addNumber_is (base : Nat) (v : Value) (l : List UInt8) (N : Int) (n : Nat) (w : World) (hN : N = n) (hv : Own w base v l) (hn : n < 18446744073709551616) (hlen : l.length + 10 ≤ 140737488355328) (hb : base ≤ w.heap.size) :
  Calls Tryz.prog 84 #[v, .int .u64 N] w fun e w' => ∃ v', e = .returned v' ∧ Own w' base v' (l ++ M.digs n) ∧ Below base w w' := by
 subst hN; exact addNumber_any base v l n w hv hn hlen hb
set_option maxRecDepth 100000 in
/-- PutText: b's bytes, the length's and the text's, in new memory. -/
theorem putText_any (a : Option Addr) (cap : Nat) (l s r : List UInt8) (w : World) (hB : Byt w a cap l) (hr : l ++ M.digs s.length ++ s = r) (hlen : l.length + 10 + s.length ≤ 140737488355328) :
  Calls Tryz.prog 54 #[.slice a l.length cap, .string (str s)] w fun e w' => ∃ v', e = .returned v' ∧ Own w' w.heap.size v' r ∧ Below w.heap.size w w' := by
 subst hr
 obtain ⟨i0, hi, hz0, hz1, hz2⟩ := info_parts Tryz.info5
 have hD := M.digs_len s.length
 have hss : (str s).size = s.length := str_size s
 go_enter Tryz.func54, Tryz.ntmps54
 go_wp2_with fail
 refine (room_is a _ cap l _ (10 + s.length) _ hB rfl (by omega) (by omega)).mono ?_
 rintro e w1 ⟨v1, rfl, ho1, hb1⟩
 go_wp2_with fail
 refine (addNumber_is _ v1 l _ s.length _ (by omega) ho1 (by omega) (by omega) hb1.size).mono ?_
 rintro e w2 ⟨v2, rfl, ho2, hb2⟩
 have hsz : w.heap.size ≤ w2.heap.size := Nat.le_trans hb1.size hb2.size
 have hb3 := hb1.trans hb2
 clear hb1 hb2 ho1 hB
 go_wp2_with (at_builtin; refine Lib.wpList_append_own_string _ rfl (.tmp 16) (.tmp 17) 26 9 rfl w.heap.size 5 i0 Tryz.underlying26 Tryz.underlying9 hi hz0 hz1 hz2 _ _ _ rfl ho2 (str s) rfl ?c1 ?c2 ?c3 ?_)
 case c1 => rw [hss, List.length_append]; unfold maxLen; omega
 case c2 => rw [hss, List.length_append]; omega
 case c3 => exact hsz
 intro v3 w3 ho3 hg3 _
 have hb4 := step_below0 hb3 hsz ho2 hg3
 have ho4 : Own w3 w.heap.size v3 (l ++ M.digs s.length ++ s) := own_text ho3 (by rw [List.length_append])
 clear ho2 ho3 hg3 hb3
 go_wp2
 go_ret
 exact ⟨_, rfl, ho4, hb4⟩
end Go.Proofs.YtbdjccmlgdfapaaGreat
